/-
Layer 8 (record): All, walked.
Layer 8 (record): Put, the program's and the document's, walked.
Layer 9 (fault): Unwrap.
Layer 9 (fault): closed facts on what errors.As and errors.Is both ask.
Layer 9 (fault): closed facts on what errors.Is asks of the method sets, at the types of package fault.
Layer 9 (fault): errors.Is at a Kind, walked.
Layer 22 (journal): a journal in memory; Rests, Lost, New; the newest generation's name.
Layer 22 (journal): put, walked.
Layer 22 (journal): Add, Sync, Reopen, walked.
Layer 22 (journal): Sync, Reopen, walked.
-/
import Derived.Test.YtpaeemkdjgbejaaGreatPack5
import Derived.Test.YtpaeemkdjgbejaaGreatProg
import Derived.Lib.Hide
import Derived.WalkKit
import Derived.LaidEql
import Derived.Stop.Asserts
import Derived.RowKitTokens
section
namespace Go.Proofs.YtpaeemkdjgbejaaGreat.Rec
open Go.RowKit Go.Proofs.YtpaeemkdjgbejaaGreat.Sum Go.Proofs.YtpaeemkdjgbejaaGreat.Own

theorem allC_at {xs : List Itm} {k : Nat} (hk : k < xs.length) (h : ∀ j (hj : j < xs.length), j < k → chk xs[j] = 0) (hc : chk xs[k] ≠ 0) : allC xs = chk xs[k] := by
  induction xs generalizing k with
  | nil => simp at hk
  | cons x l ih =>
    cases k with
    | zero =>
      have hc' : chk x ≠ 0 := hc
      show (if chk x = 0 then _ else _) = chk x
      rw [if_neg hc']
    | succ k =>
      have h0 : chk x = 0 := h 0 (by simp) (by omega)
      show (if chk x = 0 then _ else _) = _
      rw [if_pos h0]
      exact ih (by simpa using hk) (fun j hj hlt => h (j + 1) (by simpa using hj) (by omega)) hc
theorem allC_all {xs : List Itm} (h : ∀ j (hj : j < xs.length), j < xs.length → chk xs[j] = 0) : allC xs = 0 := allC_ok fun x hx => by
  obtain ⟨j, hj, rfl⟩ := List.getElem_of_mem hx
  exact h j hj hj
theorem tot_small {xs : List Itm} (k : Nat) (h : ∀ j (hj : j < xs.length), j < k → chk xs[j] = 0) : tot (xs.take k) ≤ k * 4110 := by
  refine Nat.le_trans (tot_le fun x hx => ?_) (Nat.mul_le_mul_right _ (List.length_take_le _ _))
  obtain ⟨j, hj, rfl⟩ := List.getElem_of_mem hx
  rw [List.length_take] at hj
  rw [List.getElem_take]
  exact (chk_ok.1 (h j (by omega) (by omega))).2.2.2.2

def AllPost (xs : List Itm) (w : World) (e : Ending) (w' : World) : Prop :=
  e = .returned (.tuple #[.string ⟨(allV xs).toArray⟩, .int .i64 (allC xs)]) ∧ Below w.heap.size w w'
theorem all_none {xs : List Itm} {w w' : World} {c : Int} (h : allC xs = c) (hc : c ≠ 0) (hb : Below w.heap.size w w') : AllPost xs w (.returned (.tuple #[.string ⟨#[]⟩, .int .i64 c])) w' :=
  ⟨by unfold allV; rw [h, if_neg hc], hb⟩
theorem all_some {xs : List Itm} {w w' : World} (h : allC xs = 0) (hb : Below w.heap.size w w') : AllPost xs w (.returned (.tuple #[.string ⟨(flat xs).toArray⟩, .int .i64 0])) w' :=
  ⟨by unfold allV; rw [h, if_pos rfl], hb⟩

theorem cut3 (g N p m : Nat) (hm : 0 < m) (h : p + m ≤ N) (W : World) :
    (Instr.sliceAt 74 (.slice (some ⟨g, 0, none⟩) N N) (some (.int .i64 (p : Int))) (some (.int .i64 (p : Int))) (some (.int .i64 ((p : Int) + (m : Int))))).run Tryz.prog W = .ok (.slice (some ⟨g, p, none⟩) 0 m) W := by
  have ht : Tryz.prog.underlying 74 = some (.slice (Tryz.prog.elem 74)) := by kernel_rfl
  have he : Tryz.prog.elem 74 = 5 := by kernel_rfl
  obtain ⟨i0, hi, hz0, hz1, hz2⟩ := info_parts info_byte
  rw [run_sliceAt_slice W _ _ _ _ _ ht, run_slice_lhm W _ _ _ _ ht .i64 .i64 .i64 _ _ _ (by omega) (by omega) (by omega) (by omega), he]
  have e1 : ((p : Int) + (m : Int)).toNat = p + m := by omega
  have hs : (sizeOf 5).run Tryz.prog W = .ok 1 W := by simp [sizeOf, typeInfo, hi, hz1]
  rw [hs]
  simp only [Result.andThen, sliced, e1, Int.toNat_natCast, if_neg (show ¬ p + m = p by omega)]
  simp [add_at]

/-- the first so many items' bytes are put -/
structure AllAt (g : Nat) (xs : List Itm) (k : Nat) (w wr : World) : Prop where
  row : wr.heap[g]? = some (.cells (splice (bv (List.replicate (tot xs) 0)) 0 (bv (flat (xs.take k)))).toArray 5 (0, 0))
  below : Below w.heap.size w wr

set_option maxRecDepth 100000 in
set_option maxHeartbeats 2000000 in
theorem all_calls (xs : List Itm) (p : Option Addr) (c : Nat) (w : World) (h : Its w xs p c) (hn : xs.length ≤ 1000000) :
    Calls Tryz.prog 58 #[.slice p xs.length c] w (AllPost xs w) := by
  have hcap := h.cap
  have hmax := h.max
  unfold maxLen at hmax
  have q2 : (xs.length : Int) ≤ 1000000 := by omega
  have HI := Lib.hid h
  clear h
  go_enter Tryz.func58, Tryz.ntmps58
  go_wp2_with fail
  go_loopw [4, 15] (fun z i wr => ∃ k : Nat, k ≤ xs.length ∧ i = .int .i64 k ∧ z = .int .i64 ((tot (xs.take k) : Nat) : Int) ∧ Hid (∀ j (hj : j < xs.length), j < k → chk xs[j] = 0) ∧ Below w.heap.size w wr) (fun _ i _ => xs.length - (intOf i).toNat)
  case atStart => exact ⟨0, by omega, rfl, rfl, Lib.hid (fun j hj h => absurd h (by omega)), Below.refl _ _⟩
  case round =>
    obtain ⟨k, hk, rfl, rfl, HK, hB⟩ := hrel
    have ht := tot_small k HK.out
    rcases Nat.lt_or_eq_of_le hk with hlt | rfl
    · rcases HI.out.cells with h0 | ⟨b, o, rfl, hb, hc⟩
      · rw [h0] at hlt; simp at hlt
      · obtain ⟨c0, c1, c2⟩ := hc k hlt
        rw [← hB.cell (p := ⟨b, _, none⟩) hb] at c0 c1 c2
        have q1 : (k : Int) < (xs.length : Int) := by omega
        have HT := Lib.hid (tot_take hlt)
        obtain ⟨kk, aa, bb, hx⟩ : ∃ kk aa bb, xs[k] = ⟨kk, aa, bb⟩ := ⟨_, _, _, rfl⟩
        have HX := Lib.hid hx
        rw [hx] at c0 c1 c2
        change wr.cell? _ = some (.int .i64 kk) at c0; change wr.cell? _ = some (.int .i64 aa) at c1; change wr.cell? _ = some (.string bb) at c2
        clear hc hx
        generalize tot (xs.take k) = t at *
        have t0 : (t : Int) ≤ 5000000000 := by omega
        go_wp2_with fail
        refine (check_calls kk aa bb _).mono ?_
        rintro e w5 ⟨rfl, hb5⟩
        have hq : w5.heap[wr.heap.size]? = some (.cells #[.int .i64 kk, .int .i64 aa, .string bb] 36 (0, 0)) := by
          rw [hb5.block wr.heap.size (by simp)]; exact at_new _ _
        have hsz := hB.size
        replace hB : Below w.heap.size w w5 := (hB.alloc hsz _).trans (hb5.mono (by simp; omega))
        clear hb5
        obtain ⟨d0, d1, d2⟩ := box3 hq
        have hl5 := at_lt hq
        clear hq c0 c1 c2
        by_cases hz : chk ⟨kk, aa, bb⟩ = 0
        · rw [hz]
          have hbb : bb.size ≤ 4096 := (chk_ok.1 hz).2.2.2.2
          have HZ := Lib.hid hz
          clear hz
          go_wp2_with fail
          refine (len_calls kk aa bb (by omega) _).mono ?_
          rintro e w6 ⟨rfl, hb6⟩
          replace hB := hB.trans (hb6.mono (by omega))
          clear hb6 d0 d1 d2
          go_wp2_with fail
          go_roundw
          case rel => exact ⟨k + 1, by omega, by go_num, by rw [HT.out, HX.out]; show _ = Value.int .i64 ((t + (14 + bb.size) : Nat) : Int); go_num, Lib.hid (fun j hj hlt => by
            rcases Nat.lt_or_eq_of_le (Nat.le_of_lt_succ hlt) with h | rfl
            · exact HK.out j hj h
            · rw [HX.out]; exact HZ.out), hB⟩
          case measure => simp [intOf]; omega
        · have HC := Lib.hid (allC_at hlt HK.out (by rw [HX.out]; exact hz))
          rw [HX.out] at HC
          obtain ⟨cc, hcc⟩ : ∃ cc, chk ⟨kk, aa, bb⟩ = cc := ⟨_, rfl⟩
          rw [hcc] at hz HC ⊢
          have b3 : (cc != 0) = true := by simpa using hz
          clear hcc d0 d1 d2
          go_wp2_with fail
          go_ret2
          exact all_none HC.out hz hB
    · rw [List.take_length] at ht ⊢
      have HC := Lib.hid (allC_all HK.out)
      have hsz := hB.size
      have hmk := fun W => make_bytes W ((tot xs : Nat) : Int) (tot xs) rfl (by omega)
      have hR : (bv (List.replicate (tot xs) 0)).length = tot xs := by rw [bv_len, List.length_replicate]
      have HR := Lib.hid hR
      clear hR
      go_wp2_with fail
      have A0 : AllAt wr.heap.size xs 0 w (wr.alloc (.cells (bv (List.replicate (tot xs) 0)).toArray 5)) :=
        ⟨by rw [show flat (xs.take 0) = [] from rfl, show bv [] = [] from rfl, splice_nil]; exact at_new _ _, hB.alloc hsz _⟩
      generalize wr.alloc (.cells (bv (List.replicate (tot xs) 0)).toArray 5) = w1 at *
      generalize wr.heap.size = g at *
      have hg : w.heap.size ≤ g := hsz
      clear hmk hB
      go_loopw [9, 33] (fun z i w2 => ∃ k : Nat, k ≤ xs.length ∧ i = .int .i64 k ∧ z = .int .i64 ((tot (xs.take k) : Nat) : Int) ∧ AllAt g xs k w w2) (fun _ i _ => xs.length - (intOf i).toNat)
      case atStart => exact ⟨0, by omega, rfl, rfl, A0⟩
      case round =>
        obtain ⟨k, hk, rfl, rfl, C⟩ := hrel
        have hle := tot_take_le xs k
        rcases Nat.lt_or_eq_of_le hk with hlt | rfl
        · rcases HI.out.cells with h0 | ⟨b, o, rfl, hb, hc⟩
          · rw [h0] at hlt; simp at hlt
          · obtain ⟨c0, c1, c2⟩ := hc k hlt
            rw [← C.below.cell (p := ⟨b, _, none⟩) hb] at c0 c1 c2
            have q1 : (k : Int) < (xs.length : Int) := by omega
            have hle2 := tot_take_le xs (k + 1)
            have hT := tot_take hlt
            have hz := HK.out k hlt hlt
            obtain ⟨kk, aa, bb, hx⟩ : ∃ kk aa bb, xs[k] = ⟨kk, aa, bb⟩ := ⟨_, _, _, rfl⟩
            have HX := Lib.hid hx
            rw [hx] at c0 c1 c2 hT hz
            have HT := Lib.hid hT
            change wr.cell? _ = some (.int .i64 kk) at c0; change wr.cell? _ = some (.int .i64 aa) at c1; change wr.cell? _ = some (.string bb) at c2
            change tot (xs.take (k + 1)) = tot (xs.take k) + (14 + bb.size) at hT
            rw [hT] at hle2
            have hbb : bb.size ≤ 4096 := (chk_ok.1 hz).2.2.2.2
            have HZ := Lib.hid hz
            clear hc hx hT hz
            obtain ⟨t, ht'⟩ : ∃ t, tot (xs.take k) = t := ⟨_, rfl⟩
            rw [ht'] at hle hle2 ⊢
            have HT' := Lib.hid ht'
            clear ht'
            have t0 : (t : Int) ≤ 5000000000 := by omega
            have hcut := cut3 g (tot xs) t (14 + bb.size) (by omega) (by omega)
            have e1 : (((14 + bb.size : Nat) : Nat) : Int) = 14 + (bb.size : Int) := by omega
            rw [e1] at hcut
            have kw : IntKind.i64.wrap ((t : Int) + (14 + (bb.size : Int))) = (t : Int) + (14 + (bb.size : Int)) := IntWalk.i64_in _ (by omega)
            clear e1
            go_wp2_with fail
            have hrow := C.row
            have hBW := C.below
            have hgl := at_lt hrow
            have hnb : wr.heap.size ≠ g := by omega
            replace hrow := at_old wr (.cells #[.int .i64 kk, .int .i64 aa, .string bb] 36 (0, 0)) hrow
            have hbox := at_new wr (.cells #[.int .i64 kk, .int .i64 aa, .string bb] 36 (0, 0))
            replace hBW := hBW.alloc hBW.size (.cells #[.int .i64 kk, .int .i64 aa, .string bb] 36 (0, 0))
            clear c0 c1 c2 C
            generalize wr.alloc (.cells #[.int .i64 kk, .int .i64 aa, .string bb] 36 (0, 0)) = W at *
            generalize wr.heap.size = bx at *
            obtain ⟨x0, x1, x2⟩ := box3 hbox
            have lx := at_lt hbox
            have lg := at_lt hrow
            have HRow := Lib.hid hrow
            have HBW := Lib.hid hBW
            clear hbox hrow hBW
            go_cut [12] (fun s12 wx => s12 = .slice (some ⟨g, t, none⟩) (0 + (bytesOf ⟨kk, aa, bb⟩).length) (14 + bb.size) ∧ AllAt g xs (k + 1) w wx)
            case first =>
              go_region_held3 (fun w' => w'.cell? ⟨bx, 0, none⟩ = some (.int .i64 kk) ∧ w'.cell? ⟨bx, 1, none⟩ = some (.int .i64 aa) ∧ w'.cell? ⟨bx, 2, none⟩ = some (.string bb))
                (first
                  | go_keep
                  | exact ⟨(hb5.cell (p := ⟨bx, 0, none⟩) lx).trans x0, (hb5.cell (p := ⟨bx, 1, none⟩) lx).trans x1, (hb5.cell (p := ⟨bx, 2, none⟩) lx).trans x2⟩
                  | exact ⟨(ho6.cell (p := ⟨bx, 0, none⟩) (Nat.lt_of_lt_of_le lx hb5.size) hnb).trans ((hb5.cell (p := ⟨bx, 0, none⟩) lx).trans x0), (ho6.cell (p := ⟨bx, 1, none⟩) (Nat.lt_of_lt_of_le lx hb5.size) hnb).trans ((hb5.cell (p := ⟨bx, 1, none⟩) lx).trans x1), (ho6.cell (p := ⟨bx, 2, none⟩) (Nat.lt_of_lt_of_le lx hb5.size) hnb).trans ((hb5.cell (p := ⟨bx, 2, none⟩) lx).trans x2)⟩)
                (first
                  | (go_at_call 71; refine (len_calls kk aa bb (by omega) _).mono ?_; rintro e w5 ⟨rfl, hb5⟩)
                  | (go_at_call 72; refine (item_calls _ g t (14 + bb.size) _ kk aa bb HZ.out ((hb5.block g lg).trans HRow.out) (Nat.le_refl _) (by rw [sp_len (by rw [flat_len, HT'.out, HR.out]; omega), HR.out]; omega)).mono ?_; rintro e w6 ⟨rfl, h6, ho6⟩))
              all_goals
                go_wp2_with fail
                go_meet
                refine ⟨by rw [Nat.zero_add], ⟨?_, ?_⟩⟩
                · rw [h6]
                  have e := sp (cur := bv (List.replicate (tot xs) 0)) (o := 0) (p := t) (l := flat (xs.take k)) (m := bytesOf ⟨kk, aa, bb⟩) (r := flat (xs.take (k + 1))) (by rw [flat_len, HT'.out]) (by rw [List.take_add_one, List.getElem?_eq_getElem hlt, HX.out, flat_app]; simp [flat]) (by rw [HR.out]; omega)
                  rw [Nat.zero_add] at e
                  rw [← e]; rfl
                · exact (HBW.out.drew.trans (hb5.mono HBW.out.size)).trans (ho6.below (Nat.le_trans HBW.out.size (show W.heap.size ≤ w5.heap.size from hb5.size)) (fun i e => by rw [e]; exact hg))
            case rest =>
              obtain ⟨rfl, C⟩ := hcut
              have e2 : (bytesOf ⟨kk, aa, bb⟩).length = 14 + bb.size := bytes_len _
              rw [e2]
              have HC2 := Lib.hid C
              clear C e2 x0 x1 x2 hcut
              go_wp2_with fail
              go_roundw
              case rel => exact ⟨k + 1, by omega, by go_num, by rw [HT.out, HT'.out]; show _ = Value.int .i64 ((t + (14 + bb.size) : Nat) : Int); go_num, HC2.out⟩
              case measure => simp [intOf]; omega
        · have hrow := C.row
          rw [List.take_length] at hrow
          have hF : (flat xs).length = tot xs := flat_len xs
          rw [splice_whole _ _ (by rw [bv_len, hF, HR.out])] at hrow
          have hcv := text_of (n := tot xs) (cap := tot xs) (o := 0) hrow hF (fun j hj => by rw [Nat.zero_add])
          have HB := Lib.hid C.below
          clear hrow C hF
          go_wp2_with fail
          go_ret2
          exact all_some HC.out HB.out
end Go.Proofs.YtpaeemkdjgbejaaGreat.Rec
end

section
namespace Go.Proofs.YtpaeemkdjgbejaaGreat.Rec
open Go.RowKit Go.Proofs.YtpaeemkdjgbejaaGreat.Sum Go.Proofs.YtpaeemkdjgbejaaGreat.Own

def PutPost (x : Itm) (w : World) (e : Ending) (w' : World) : Prop :=
  e = .returned (.tuple #[.string ⟨(putV x).toArray⟩, .int .i64 (chk x)]) ∧ Below w.heap.size w w'

set_option maxHeartbeats 400000 in
theorem put_calls (k a : Int) (b : ByteArray) (w : World) :
    Calls Tryz.prog 46 #[.agg #[.int .i64 k, .int .i64 a, .string b]] w (PutPost ⟨k, a, b⟩ w) := by
  have HA : Hid (∀ W, Its W [⟨k, a, b⟩] (some ⟨w.heap.size + 1, 0, none⟩) 1 → Calls Tryz.prog 58 #[.slice (some ⟨w.heap.size + 1, 0, none⟩) 1 1] W (AllPost [⟨k, a, b⟩] W)) := Lib.hid (fun W h => all_calls [⟨k, a, b⟩] _ 1 W h (by show 1 ≤ 1000000; omega))
  go_enter Tryz.func46, Tryz.ntmps46
  go_wp2_with fail
  refine (HA.out _ ⟨by show 1 ≤ 1; omega, by unfold maxLen; omega, .inr ⟨w.heap.size + 1, 0, rfl, by simp, fun i hi => ?_⟩⟩).mono ?_
  · have h0 : i = 0 := by have : i < 1 := hi; omega
    subst h0
    have hq := at_newk (w.alloc (.cells #[.int .i64 k, .int .i64 a, .string b] 36 (0, 0))) (.cells #[.int .i64 k, .int .i64 a, .string b] 36 (0, 0)) (k := w.heap.size + 1) (by simp)
    exact box3 hq
  · rintro e w5 ⟨rfl, hb5⟩
    obtain ⟨e1, e2⟩ := all_one ⟨k, a, b⟩
    rw [e1, e2]
    have hB : Below w.heap.size w w5 := (((Below.refl _ _).alloc (Nat.le_refl _) _).alloc (by simp) _).trans (hb5.mono (by simp; omega))
    clear hb5
    go_wp2_with fail
    go_ret2
    exact ⟨rfl, hB⟩

theorem ba_app (l m : List UInt8) : (⟨l.toArray⟩ : ByteArray) ++ ⟨m.toArray⟩ = ⟨(l ++ m).toArray⟩ := ByteArray.ext (by simp [ByteArray.data_append])
theorem dig_cons (k : Nat) : ∀ n : Int, 0 ≤ n → dig (k + 1) n = byteI (n / 256 ^ k % 256) :: dig k n := by
  induction k with
  | zero => intro n _; show [byteI (n % 256)] = [byteI (n / 1 % 256)]; rw [Int.ediv_one]
  | succ k ih =>
    intro n hn
    rw [dig, ih _ (by omega), List.cons_append]
    congr 2
    · congr 1
      rw [Int.pow_succ, Int.mul_comm, ← Int.ediv_ediv_of_nonneg (by omega)]

theorem byte_text {P : Program} (W : World) (b : Nat) (x : Int) (c : UInt8) (hc : (c.toNat : Int) = x) (src dst e : TypeId) (hs : P.underlying src = some (.slice e)) (he : P.underlying e = some (.int .u8)) (hd : P.underlying dst = some .string)
    (h : W.cell? ⟨b, 0, none⟩ = some (.int .u8 x)) : (convert src dst (.slice (some ⟨b, 0, none⟩) 1 1)).run P W = .ok (.string ⟨#[c]⟩) W := by
  subst hc
  refine run_convert_bytes_back W src dst e ⟨b, 0, none⟩ 1 [c] hs he hd (fun j hj => ?_)
  have : j = 0 := by simp at hj; omega
  subst this; exact h
theorem two_text {P : Program} (W : World) (b : Nat) (x y : Int) (c d : UInt8) (hc : (c.toNat : Int) = x) (hd' : (d.toNat : Int) = y) (src dst e : TypeId) (hs : P.underlying src = some (.slice e)) (he : P.underlying e = some (.int .u8)) (hd : P.underlying dst = some .string)
    (h : W.cell? ⟨b, 0, none⟩ = some (.int .u8 x)) (h' : W.cell? ⟨b, 1, none⟩ = some (.int .u8 y)) : (convert src dst (.slice (some ⟨b, 0, none⟩) 2 2)).run P W = .ok (.string ⟨#[c, d]⟩) W := by
  subst hc hd'
  refine run_convert_bytes_back W src dst e ⟨b, 0, none⟩ 2 [c, d] hs he hd (fun j hj => ?_)
  match j, hj with
  | 0, _ => exact h
  | 1, _ => exact h'
  | j + 2, hj => exact absurd hj (by simp)

set_option maxRecDepth 100000 in
set_option maxHeartbeats 1000000 in
theorem rput_calls (k a : Int) (b : ByteArray) (w : World) :
    Calls Tryz.prog 64 #[.agg #[.int .i64 k, .int .i64 a, .string b]] w (PutPost ⟨k, a, b⟩ w) := by
  by_cases hz : chk ⟨k, a, b⟩ = 0
  · have HP := Lib.hid (putV_ok hz)
    obtain ⟨k0, k1, a0, a1, b1⟩ := chk_ok.1 hz
    change 1 ≤ k at k0; change k ≤ 15 at k1; change 0 ≤ a at a0; change a ≤ 1099511627776 at a1; change b.size ≤ 4096 at b1
    have HZ := Lib.hid hz
    clear hz
    go_enter Tryz.func64, Tryz.ntmps64
    go_wp2_with fail
    refine (rcheck_calls _ _ _ _).mono ?_
    rintro e w5 ⟨rfl, hb5⟩
    rw [HZ.out]
    have hq : w5.heap[w.heap.size]? = some (.cells #[.int .i64 k, .int .i64 a, .string b] 36 (0, 0)) := by
      rw [hb5.block w.heap.size (by simp)]; exact at_new _ _
    have hB : Below w.heap.size w w5 := ((Below.refl _ _).alloc (Nat.le_refl _) _).trans (hb5.mono (by simp))
    clear hb5
    obtain ⟨x0, x1, x2⟩ := box3 hq
    have HQ := Lib.hid hq
    clear hq
    go_wp2_with fail
    go_loopw [5, 6, 7] (fun s n i wr => ∃ (j : Nat) (m : Int), j ≤ 6 ∧ i = .int .i64 j ∧ n = .int .i64 m ∧ 0 ≤ m ∧ m < 281474976710656 ∧ Hid (m = a / 256 ^ j) ∧ s = .string ⟨(dig j a).toArray⟩ ∧ wr.heap[w.heap.size]? = some (.cells #[.int .i64 k, .int .i64 a, .string b] 36 (0, 0)) ∧ Below w.heap.size w wr) (fun _ _ i _ => 6 - (intOf i).toNat)
    case atStart => exact ⟨0, a, by omega, rfl, rfl, a0, by omega, Lib.hid (Int.ediv_one a).symm, rfl, HQ.out, hB⟩
    case round =>
      obtain ⟨j, m, hj, rfl, rfl, m0, m1, HM, rfl, hrow, hBr⟩ := hrel
      by_cases hlt : j < 6
      · have hcv := fun (W : World) (b : Nat) (h : W.cell? ⟨b, 0, none⟩ = some (.int .u8 (m % 256))) => byte_text (P := Tryz.prog) W b (m % 256) (byteI (m % 256)) (byteI_back (by omega) (by omega)) 74 9 5 Tryz.underlying74 Tryz.underlying5 Tryz.underlying9 h
        have HS : Hid ((⟨#[byteI (m % 256)]⟩ : ByteArray) ++ ⟨(dig j a).toArray⟩ = ⟨(dig (j + 1) a).toArray⟩) := Lib.hid (by rw [dig_cons j a a0, ← HM.out]; exact ba_app [_] _)
        have hs : (⟨(dig j a).toArray⟩ : ByteArray).size ≤ 6 := by show (dig j a).length ≤ 6; rw [dig_len]; exact hj
        generalize (⟨(dig j a).toArray⟩ : ByteArray) = S at hs HS ⊢
        have hsz := hBr.size
        have hrow' := at_old wr (.cells #[.int .u8 (m % 256)] 5 (0, 0)) hrow
        have HR := Lib.hid hrow'
        clear hrow hrow'
        go_wp2_with fail
        go_roundw
        case rel => exact ⟨j + 1, m / 256, by omega, by go_num, rfl, by omega, by omega, Lib.hid (by rw [HM.out, Int.pow_succ, Int.ediv_ediv_of_nonneg (Int.pow_nonneg (by omega))]), by rw [HS.out], HR.out, hBr.alloc hsz _⟩
        case measure => simp [intOf]; omega
      · obtain rfl : j = 6 := by omega
        have hcv := fun (W : World) (b : Nat) (h : W.cell? ⟨b, 0, none⟩ = some (.int .u8 k)) => byte_text (P := Tryz.prog) W b k (byteI k) (byteI_back (by omega) (by omega)) 74 9 5 Tryz.underlying74 Tryz.underlying5 Tryz.underlying9 h
        have hcw := fun (W : World) (g : Nat) (h : W.cell? ⟨g, 0, none⟩ = some (.int .u8 ((b.size : Int) / 256))) (h' : W.cell? ⟨g, 1, none⟩ = some (.int .u8 ((b.size : Int) % 256))) => two_text (P := Tryz.prog) W g _ _ (byteI ((b.size : Int) / 256)) (byteI ((b.size : Int) % 256)) (byteI_back (by omega) (by omega)) (byteI_back (by omega) (by omega)) 74 9 5 Tryz.underlying74 Tryz.underlying5 Tryz.underlying9 h h'
        have HT : Hid ((((⟨#[87]⟩ : ByteArray) ++ ⟨#[byteI k]⟩ ++ ⟨(dig 6 a).toArray⟩) ++ ⟨#[byteI ((b.size : Int) / 256), byteI ((b.size : Int) % 256)]⟩) ++ b = ⟨(noSum ⟨k, a, b⟩).toArray⟩) := Lib.hid (ByteArray.ext (by
          rw [noSum, headL, dig2 (n := (b.size : Int)) (by omega) (by omega)]
          simp [ByteArray.data_append]))
        have hs : (⟨(dig 6 a).toArray⟩ : ByteArray).size ≤ 6 := by show (dig 6 a).length ≤ 6; rw [dig_len]; omega
        generalize (⟨(dig 6 a).toArray⟩ : ByteArray) = S at hs HT ⊢
        obtain ⟨y0, y1, y2⟩ := box3 hrow
        have hlw := at_lt hrow
        have hsz := hBr.size
        have HB := Lib.hid hBr
        clear hrow hBr
        have HB2 : Hid (Below w.heap.size w ((wr.alloc (.cells #[.int .u8 k] 5 (0, 0))).alloc (.cells #[.int .u8 ((b.size : Int) / 256), .int .u8 ((b.size : Int) % 256)] 5 (0, 0)))) := Lib.hid ((HB.out.alloc hsz _).alloc (by simp; omega) _)
        have hN : (⟨(noSum ⟨k, a, b⟩).toArray⟩ : ByteArray).size ≤ 5000 := by show (noSum ⟨k, a, b⟩).length ≤ 5000; rw [noSum_len]; show 10 + b.size ≤ 5000; omega
        go_wp2_with fail
        rw [HT.out]
        generalize ((wr.alloc (.cells #[.int .u8 k] 5 (0, 0))).alloc (.cells #[.int .u8 ((b.size : Int) / 256), .int .u8 ((b.size : Int) % 256)] 5 (0, 0))) = W at *
        refine (rof_calls _ (by omega) _).mono ?_
        rintro e w' ⟨rfl, rfl⟩
        go_wp2_with fail
        refine (Sum.rput_calls _ _).mono ?_
        rintro e w6 ⟨rfl, hb6⟩
        have HB3 := Lib.hid (HB2.out.trans (hb6.mono HB2.out.size))
        have hP : (⟨(putL (sumOf (noSum ⟨k, a, b⟩))).toArray⟩ : ByteArray).size ≤ 4 := by show (putL (sumOf (noSum ⟨k, a, b⟩))).length ≤ 4; rw [put_sum, four_len]; omega
        have HE : Hid ((⟨(noSum ⟨k, a, b⟩).toArray⟩ : ByteArray) ++ ⟨(putL (sumOf (noSum ⟨k, a, b⟩))).toArray⟩ = ⟨(putV ⟨k, a, b⟩).toArray⟩) := Lib.hid (by rw [HP.out, ba_app]; rfl)
        clear hb6
        change (ByteArray.mk (putL (sumOf (ByteArray.mk (noSum ⟨k, a, b⟩).toArray).data.toList)).toArray).size ≤ 4 at hP
        go_wp2_with fail
        go_ret2
        exact ⟨by rw [← HE.out, HZ.out]; rfl, HB3.out⟩
  · have HP := Lib.hid (putV_no hz)
    obtain ⟨c, hc⟩ : ∃ c, chk ⟨k, a, b⟩ = c := ⟨_, rfl⟩
    rw [hc] at hz
    have b3 : (c != 0) = true := by simpa using hz
    have HC := Lib.hid hc
    clear hc
    go_enter Tryz.func64, Tryz.ntmps64
    go_wp2_with fail
    refine (rcheck_calls _ _ _ _).mono ?_
    rintro e w5 ⟨rfl, hb5⟩
    rw [HC.out]
    have hB : Below w.heap.size w w5 := ((Below.refl _ _).alloc (Nat.le_refl _) _).trans (hb5.mono (by simp))
    clear hb5
    go_wp2_with fail
    go_ret2
    exact ⟨by rw [HP.out, HC.out]; rfl, hB⟩

end Go.Proofs.YtpaeemkdjgbejaaGreat.Rec
end

section
namespace Go.Proofs.YtpaeemkdjgbejaaGreat.Flt
open Go.RowKit Go.Proofs.YtpaeemkdjgbejaaGreat.Own

theorem unwrap_calls (b : Nat) (a x u : Value) (w : World) (h : w.heap[b]? = some (.cells #[a, x, u] 118 (0, 0))) :
    Calls Tryz.prog 129 #[.pointer (some ⟨b, 0, none⟩)] w fun e w' => e = .returned u ∧ w' = w := by
  have hc : w.cell? ⟨b, 2, none⟩ = some u := by rw [at_cell h]; rfl
  clear h
  go_enter Tryz.func129, Tryz.ntmps129
  go_wp2_with fail
  go_ret
  exact ⟨rfl, rfl⟩

theorem err_nil {w : World} {N : Nat} {v : Value} {l : List Lay} {c : Int} (h : Err w N v l c) : ∃ t u, v = .iface t u := by
  cases l with
  | nil => exact ⟨_, _, h⟩
  | cons x r => exact ⟨_, _, h.1⟩

end Go.Proofs.YtpaeemkdjgbejaaGreat.Flt
end

section
namespace Go.Proofs.YtpaeemkdjgbejaaGreat.Flt
open Go.RowKit Go.Extern.Stop Go.Stop Go.Extern

theorem methodComparable (x : Value) (w : World) : (Go.method 278 102 x "Comparable").run Tryz.prog w = .ok (119, x) w := by kernel_rfl
theorem methodUnwrap (v : Value) (w : World) : (Go.method 278 116 v "Unwrap").run Tryz.prog w = .ok (129, v) w := by kernel_rfl
theorem typeOf_K (v : Value) (w : World) : (ReflectliteType.typeOf #[.iface 66 v]).run Tryz.prog w = .ok (.iface 102 (.agg #[.pointer (some ⟨0, 66, none⟩)])) w := by kernel_rfl
/-- (rtype).Comparable's entry -/
def compE : Array Value → Sem Value := ReflectliteType.method fun t => do Rtype.noPackHeld "Comparable" t; pure (.bool (← typeInfo t).comparable)
theorem comparable_K (w : World) : (compE #[.agg #[.pointer (some ⟨0, 66, none⟩)]]).run Tryz.prog w = .ok (.bool true) w := by kernel_rfl
theorem noUnwraps_K (v : Value) (xT : TypeId) (w : World) : (Instr.typeAssert (.iface 66 v) xT 109 true).run Tryz.prog w = .ok (.tuple #[.nilIface, .bool false]) w := run_typeAssert_lacksB Tryz.underlying109 (by kernel_rfl) (by kernel_rfl) v xT w
theorem noUnwrap_K (v : Value) (xT : TypeId) (w : World) : (Instr.typeAssert (.iface 66 v) xT 107 true).run Tryz.prog w = .ok (.tuple #[.nilIface, .bool false]) w := run_typeAssert_lacksB Tryz.underlying107 (by kernel_rfl) (by kernel_rfl) v xT w
theorem noUnwraps_F (v : Value) (xT : TypeId) (w : World) : (Instr.typeAssert (.iface 116 v) xT 109 true).run Tryz.prog w = .ok (.tuple #[.nilIface, .bool false]) w := run_typeAssert_lacksB Tryz.underlying109 (by kernel_rfl) (by kernel_rfl) v xT w
theorem hasUnwrap_F (v : Value) (xT : TypeId) (w : World) : (Instr.typeAssert (.iface 116 v) xT 107 true).run Tryz.prog w = .ok (.tuple #[.iface 116 v, .bool true]) w := run_typeAssert_hasB Tryz.underlying107 (by kernel_rfl) v xT w
theorem eql_KK (c a : Int) (w : World) : (binOp .eql 27 (.iface 66 (.int .i64 c)) (.iface 66 (.int .i64 a))).run Tryz.prog w = .ok (.bool (c == a)) w := by kernel_rfl
theorem eql_FK (v u : Value) (w : World) : (binOp .eql 27 (.iface 116 v) (.iface 66 u)).run Tryz.prog w = .ok (.bool false) w := run_eql_iface_types _ _ _ _ Tryz.underlying27 (by decide) w
theorem eql_nil (t : TypeId) (v : Value) (w : World) : (binOp .eql 27 .nilIface (.iface t v)).run Tryz.prog w = .ok (.bool false) w := run_eql_iface_nil_left (P := Tryz.prog) w t v Tryz.underlying27
end Go.Proofs.YtpaeemkdjgbejaaGreat.Flt
end

section
namespace Go.Proofs.YtpaeemkdjgbejaaGreat.Flt
open Go.RowKit Go.Extern.Stop Go.Stop Go.Extern

theorem noIs_K (v : Value) (xT : TypeId) (w : World) : (Instr.typeAssert (.iface 66 v) xT 104 true).run Tryz.prog w = .ok (.tuple #[.nilIface, .bool false]) w := run_typeAssert_lacksB Tryz.underlying104 (by kernel_rfl) (by kernel_rfl) v xT w
theorem noIs_F (v : Value) (xT : TypeId) (w : World) : (Instr.typeAssert (.iface 116 v) xT 104 true).run Tryz.prog w = .ok (.tuple #[.nilIface, .bool false]) w := run_typeAssert_lacksB Tryz.underlying104 (by kernel_rfl) (by kernel_rfl) v xT w
end Go.Proofs.YtpaeemkdjgbejaaGreat.Flt
end

section
namespace Go.Proofs.YtpaeemkdjgbejaaGreat.Flt
open Go.RowKit Go.Extern.Stop Go.Stop Go.Extern Go.Proofs.YtpaeemkdjgbejaaGreat.Own

set_option maxRecDepth 100000 in
set_option maxHeartbeats 4000000 in
/-- errors.is at a Kind -/
theorem is_kind (v : Value) (l : List Lay) (c a : Int) (N : Nat) (w : World) (h : Err w N v l c) :
    Calls Tryz.prog 44 #[v, .iface 66 (.int .i64 a), .bool true] w
      fun e w' => e = .returned (.bool (c == a)) ∧ w = w' := by
  have nF := noIs_F
  have nK := noIs_K
  have uK := noUnwrap_K
  have vK := noUnwraps_K
  have mU := methodUnwrap
  have hU := hasUnwrap_F
  have eF := eql_FK
  have eK := eql_KK
  obtain ⟨b, hb⟩ : ∃ b, (c == a) = b := ⟨_, rfl⟩
  rw [hb]
  have eK' : ∀ w, (binOp .eql 27 (.iface 66 (.int .i64 c)) (.iface 66 (.int .i64 a))).run Tryz.prog w = .ok (.bool b) w := fun w => by rw [← hb]; exact eK c a w
  clear eK hb
  have HE := Lib.hid h
  clear h
  go_enter Tryz.func44, Tryz.ntmps44
  go_wp2_with fail
  go_loop [0] (fun u => ∃ (M : Nat) (r : List Lay), Err w M u r c) (fun u => deep u)
  case atStart => exact ⟨N, l, HE.out⟩
  case round =>
    obtain ⟨M, r, he⟩ := hrel
    cases r with
    | nil =>
      obtain rfl : _ = Value.iface 66 (.int .i64 c) := he
      cases b
      · go_wp2_with fail
        go_ret
        exact ⟨rfl, rfl⟩
      · go_wp2_with fail
        go_ret
        exact ⟨rfl, rfl⟩
    | cons x r =>
      obtain ⟨rfl, hx, u, hb, he'⟩ := he
      obtain ⟨ut, uv, rfl⟩ := err_nil he'
      have HE' := Lib.hid he'
      have HB := Lib.hid hb
      clear he' hb
      go_wp2_with (go_at_call 129; refine (unwrap_calls _ _ _ _ _ HB.out).mono ?_; rintro e w' ⟨rfl, rfl⟩)
      go_round
      case rel => exact ⟨x.blk, r, HE'.out⟩
      case measure =>
        have := HE'.out
        cases r with
        | nil => rw [show Value.iface ut uv = _ from this]; simp [deep]
        | cons y s => rw [show Value.iface ut uv = _ from this.1]; have := this.2.1; simp [deep]; omega

set_option maxRecDepth 100000 in
set_option maxHeartbeats 4000000 in
/-- errors.Is at a Kind -/
theorem is_calls (v : Value) (l : List Lay) (c a : Int) (N : Nat) (w : World) (h : Err w N v l c) :
    Calls Tryz.prog 26 #[v, .iface 66 (.int .i64 a)] w
      fun e w' => e = .returned (.bool (c == a)) ∧ w = w' := by
  have h37 := @run_callFunc_extern Tryz.prog 43 _ ReflectliteType.typeOf Tryz.func43 (by kernel_rfl) (by kernel_rfl) (by kernel_rfl) (by kernel_rfl)
  have h72 := @run_callFunc_extern Tryz.prog 119 _ compE Tryz.func119 (by kernel_rfl) (by kernel_rfl) (by kernel_rfl) (by kernel_rfl)
  have tK := typeOf_K
  have cK := comparable_K
  have mC := methodComparable
  obtain ⟨ut, uv, rfl⟩ := err_nil h
  have HE := Lib.hid h
  clear h
  go_enter Tryz.func26, Tryz.ntmps26
  go_wp2_with (go_at_call 44; refine (is_kind _ l c a N _ HE.out).mono ?_; rintro e w' ⟨rfl, rfl⟩)
  go_ret
  exact ⟨rfl, rfl⟩
set_option maxHeartbeats 1000000 in
theorem isNil_calls (a : Int) (w : World) :
    Calls Tryz.prog 26 #[.nilIface, .iface 66 (.int .i64 a)] w fun e w' => e = .returned (.bool false) ∧ w = w' := by
  have hn := eql_nil
  go_enter Tryz.func26, Tryz.ntmps26
  go_wp2_with fail
  go_ret
  exact ⟨rfl, rfl⟩
end Go.Proofs.YtpaeemkdjgbejaaGreat.Flt
end

section
namespace Go.Proofs.YtpaeemkdjgbejaaGreat.Jrn
open Go.RowKit Go.Proofs.YtpaeemkdjgbejaaGreat.Own Go.Proofs.YtpaeemkdjgbejaaGreat.Sto Go.Proofs.YtpaeemkdjgbejaaGreat.Gen
open Go.Proofs.YtpaeemkdjgbejaaGreat.Rec (Itm chk bytesOf flat)

/-- a journal: its box -/
def jcs (b : Nat) (base : Bs) (n size : Int) (r : Bool) (l : Int) : Array Value := #[.pointer (some ⟨b, 0, none⟩), .string ⟨base.toArray⟩, .int .i64 n, .int .i64 size, .bool r, .int .i64 l]
structure Jb (w : World) (j b : Nat) (base : Bs) (n size : Int) (r : Bool) (l : Int) : Prop where
  box : w.heap[j]? = some (.cells (jcs b base n size r l) 62 (0, 0))
theorem Jb.below {w w' : World} {j b : Nat} {base : Bs} {n size : Int} {r : Bool} {l : Int} (h : Jb w j b base n size r l) (hb : Below w.heap.size w w') : Jb w' j b base n size r l := ⟨(hb.block _ (at_lt h.box)).trans h.box⟩
theorem Jb.out {w w' : World} {j b : Nat} {base : Bs} {n size : Int} {r : Bool} {l : Int} {S : Nat → Prop} (h : Jb w j b base n size r l) (ho : Out S w w') (hj : ¬ S j) : Jb w' j b base n size r l := ⟨(ho.block _ (at_lt h.box) hj).trans h.box⟩
theorem Jb.cells {w : World} {j b : Nat} {base : Bs} {n size : Int} {r : Bool} {l : Int} (h : Jb w j b base n size r l) :
    w.cell? ⟨j, 0, none⟩ = some (.pointer (some ⟨b, 0, none⟩)) ∧ w.cell? ⟨j, 1, none⟩ = some (.string ⟨base.toArray⟩) ∧ w.cell? ⟨j, 2, none⟩ = some (.int .i64 n) ∧ w.cell? ⟨j, 3, none⟩ = some (.int .i64 size) ∧ w.cell? ⟨j, 4, none⟩ = some (.bool r) ∧ w.cell? ⟨j, 5, none⟩ = some (.int .i64 l) :=
  ⟨at_cell h.box 0, at_cell h.box 1, at_cell h.box 2, at_cell h.box 3, at_cell h.box 4, at_cell h.box 5⟩

theorem jne (b : Nat) (base : Bs) (n size : Int) (r : Bool) (l : Int) (W : World) :
    (binOp .neq 62 (.agg #[.pointer (some ⟨b, 0, none⟩), .string ⟨base.toArray⟩, .int .i64 n, .int .i64 size, .bool r, .int .i64 l]) (.agg #[.pointer none, .string ⟨#[]⟩, .int .i64 0, .int .i64 0, .bool false, .int .i64 0])).run Tryz.prog W = .ok (.bool true) W := by kernel_rfl

set_option maxRecDepth 100000 in
theorem made_calls {w : World} {j b : Nat} {base : Bs} {n size : Int} {r : Bool} {l : Int} (h : Jb w j b base n size r l) :
    Calls Tryz.prog 23 #[pb j] w fun e w' => e = .returned (.bool true) ∧ w = w' := by
  obtain ⟨c0, c1, c2, c3, c4, c5⟩ := h.cells
  have hne := jne b base n size r l
  clear h
  go_enter Tryz.func23, Tryz.ntmps23
  go_wp2_with fail
  go_ret
  exact ⟨rfl, rfl⟩
set_option maxRecDepth 100000 in
theorem rests_calls {w : World} {j b : Nat} {base : Bs} {n size : Int} {r : Bool} {l : Int} (h : Jb w j b base n size r l) :
    Calls Tryz.prog 19 #[pb j] w fun e w' => e = .returned (.bool r) ∧ w = w' := by
  have hm := Lib.hid (made_calls h)
  obtain ⟨c0, c1, c2, c3, c4, c5⟩ := h.cells
  clear h
  go_enter Tryz.func19, Tryz.ntmps19
  go_wp2_with (go_at_call 23; refine hm.out.mono ?_; rintro e w' ⟨rfl, rfl⟩)
  go_ret
  exact ⟨rfl, rfl⟩
set_option maxRecDepth 100000 in
theorem lost_calls {w : World} {j b : Nat} {base : Bs} {n size : Int} {r : Bool} {l : Int} (h : Jb w j b base n size r l) :
    Calls Tryz.prog 9 #[pb j] w fun e w' => e = .returned (.int .i64 l) ∧ w = w' := by
  have hm := Lib.hid (made_calls h)
  obtain ⟨c0, c1, c2, c3, c4, c5⟩ := h.cells
  clear h
  go_enter Tryz.func9, Tryz.ntmps9
  go_wp2_with (go_at_call 23; refine hm.out.mono ?_; rintro e w' ⟨rfl, rfl⟩)
  go_ret
  exact ⟨rfl, rfl⟩
theorem name0_calls (b : Bs) (w : World) : Calls Tryz.prog 42 #[.string ⟨b.toArray⟩, .int .i64 0] w fun e w' => e = .returned (.string ⟨b.toArray⟩) ∧ w = w' := by
  go_enter Tryz.func42, Tryz.ntmps42
  go_wp2_with fail
  go_ret
  exact ⟨rfl, rfl⟩
set_option maxRecDepth 100000 in
theorem newest_calls {w : World} {j : Nat} {base : Bs} (c1 : w.cell? ⟨j, 1, none⟩ = some (.string ⟨base.toArray⟩)) :
    Calls Tryz.prog 25 #[pb j] w fun e w' => e = .returned (.string ⟨base.toArray⟩) ∧ w = w' := by
  go_enter Tryz.func25, Tryz.ntmps25
  go_wp2_with (go_at_call 42; refine (name0_calls base _).mono ?_; rintro e w' ⟨rfl, rfl⟩)
  go_ret
  exact ⟨rfl, rfl⟩

/-! ### New -/
theorem new_nil (base : ByteArray) (n size : Int) (w : World) : Calls Tryz.prog 6 #[.pointer none, .string base, .int .i64 n, .int .i64 size] w fun e w' => e = .returned (.tuple #[.pointer none, .int .i64 14]) ∧ w = w' := by
  go_enter Tryz.func6, Tryz.ntmps6
  go_wp2_with fail
  go_ret2
  exact ⟨rfl, rfl⟩
theorem new_low (b : Nat) (base : ByteArray) (size : Int) (w : World) : Calls Tryz.prog 6 #[pb b, .string base, .int .i64 0, .int .i64 size] w fun e w' => e = .returned (.tuple #[.pointer none, .int .i64 2]) ∧ w = w' := by
  go_enter Tryz.func6, Tryz.ntmps6
  go_wp2_with fail
  go_ret2
  exact ⟨rfl, rfl⟩
theorem new_some (b : Nat) (base : Bs) (n size : Int) (hn : 1 ≤ n ∧ n ≤ 16) (hs : 64 ≤ size ∧ size ≤ 1048576) (w : World) : Calls Tryz.prog 6 #[pb b, .string ⟨base.toArray⟩, .int .i64 n, .int .i64 size] w fun e w' =>
    e = .returned (.tuple #[pb w.heap.size, .int .i64 0]) ∧ Jb w' w.heap.size b base n size false 0 ∧ Below w.heap.size w w' := by
  have h1 : ¬ n < 1 := by omega
  have h2 : ¬ n > 16 := by omega
  have h3 : ¬ size < 64 := by omega
  have h4 : ¬ size > 1048576 := by omega
  obtain ⟨n1, n2⟩ := hn
  obtain ⟨s1, s2⟩ := hs
  go_enter Tryz.func6, Tryz.ntmps6
  go_wp2_with fail
  go_ret2
  exact ⟨rfl, ⟨at_new _ _⟩, (Below.refl _ _).alloc (Nat.le_refl _) _⟩
end Go.Proofs.YtpaeemkdjgbejaaGreat.Jrn
end

section
namespace Go.Proofs.YtpaeemkdjgbejaaGreat.Jrn
open Go.RowKit Go.Proofs.YtpaeemkdjgbejaaGreat.Own Go.Proofs.YtpaeemkdjgbejaaGreat.Sto Go.Proofs.YtpaeemkdjgbejaaGreat.Gen Go.Proofs.YtpaeemkdjgbejaaGreat.Flt
open Go.Proofs.YtpaeemkdjgbejaaGreat.Rec (Itm chk bytesOf flat)

def jpT (t : St) (b : Bs) (K : Nat) (size : Int) (x : Itm) : St := if chk x = 0 then putT t b K size (bytesOf x) else t
def jpC (t : St) (b : Bs) (K : Nat) (size : Int) (x : Itm) : Int := if chk x = 0 then putC t b K size (bytesOf x) else chk x
/-- a store while something is put into it -/
structure Pt (w : World) (bs : Nat → Prop) (W : World) (bs1 : Nat → Prop) (b : Nat) (t : St) : Prop where
  sto : Sto W bs1 b t
  out : Out bs w W
  new : ∀ i, bs1 i → bs i ∨ w.heap.size ≤ i
section
variable {w W W' : World} {bs bs1 : Nat → Prop} {b : Nat} {t t' : St} {e : Ending} {C : Int}
theorem Pt.start (h : Sto w bs b t) : Pt w bs w bs b t := ⟨h, Out.refl _ _, fun _ h => .inl h⟩
theorem Pt.same (h : Pt w bs W bs1 b t) (hb : Below W.heap.size W W') : Pt w bs W' bs1 b t :=
  ⟨h.sto.below hb, h.out.trans (Out.ofNew (S := fun _ => False) hb) (fun _ _ h => h.elim), h.new⟩
theorem Pt.ends (h : Pt w bs W bs1 b t) (hd : DoesE W bs1 e W' b t' C) : DoesE w bs e W' b t' C := by
  obtain ⟨v, k, bs2, he, hE, hk, hs, ho, hn⟩ := hd
  have hsz := h.out.size
  refine ⟨v, k, bs2, he, hE, fun hc => ⟨Nat.le_trans hsz (hk hc).1, (hk hc).2⟩, hs, h.out.trans ho fun i hi hb => ?_, fun i hi => ?_⟩
  · rcases h.new i hb with h1 | h1
    · exact h1
    · omega
  · rcases hn i hi with h1 | h1
    · exact h.new i h1
    · exact .inr (by omega)
theorem Pt.go (h : Pt w bs W bs1 b t) {bs2 : Nat → Prop} (hs : Sto W' bs2 b t') (ho : Out bs1 W W') (hn : ∀ i, bs2 i → bs1 i ∨ W.heap.size ≤ i) : Pt w bs W' bs2 b t' := by
  have hsz := h.out.size
  refine ⟨hs, h.out.trans ho fun i hi hb => ?_, fun i hi => ?_⟩
  · rcases h.new i hb with h1 | h1
    · exact h1
    · omega
  · rcases hn i hi with h1 | h1
    · exact h.new i h1
    · exact .inr (by omega)
theorem Pt.ok (h : Pt w bs W bs1 b t) (hd : DoesE W bs1 e W' b t' 0) : e = .returned .nilIface ∧ ∃ bs2, Pt w bs W' bs2 b t' := by
  obtain ⟨v, k, bs2, he, hE, -, hs, ho, hn⟩ := hd
  rcases hE with ⟨_, rfl⟩ | ⟨hc, _⟩
  · exact ⟨he, bs2, h.go hs ho hn⟩
  · exact absurd rfl hc
end
theorem Jb.pt {w W : World} {j b b2 : Nat} {base : Bs} {n size : Int} {r : Bool} {l : Int} {bs bs1 : Nat → Prop} {t : St} (h : Jb w j b base n size r l) (hj : ¬ bs j) (hp : Pt w bs W bs1 b2 t) : Jb W j b base n size r l := h.out hp.out hj
theorem recput (k a : Int) (s : ByteArray) (W : World) : Calls Tryz.prog 46 #[.agg #[.int .i64 k, .int .i64 a, .string s]] W fun e w' => e = .returned (.tuple #[.string ⟨(Rec.putV ⟨k, a, s⟩).toArray⟩, .int .i64 (chk ⟨k, a, s⟩)]) ∧ Below W.heap.size W w' :=
  (Rec.put_calls k a s W).mono fun _ _ h => h
theorem bdN (W : World) (q : Nat) : Below W.heap.size W (W.drewN q) := ⟨rfl, rfl, rfl, Nat.le_refl _, fun _ _ => rfl⟩
theorem bd1 (W : World) : Below W.heap.size W W.drew := ⟨rfl, rfl, rfl, Nat.le_refl _, fun _ _ => rfl⟩
theorem held2 {w w' : World} {j b : Nat} {base : Bs} {n size : Int} {r : Bool} {l : Int} (h : Jb w j b base n size r l) (hb : Below w.heap.size w w') : Below w.heap.size w w' ∧ w'.cell? ⟨j, 0, none⟩ = some (.pointer (some ⟨b, 0, none⟩)) ∧ w'.cell? ⟨j, 1, none⟩ = some (.string ⟨base.toArray⟩) :=
  ⟨hb, (h.below hb).cells.1, (h.below hb).cells.2.1⟩
theorem size_b (l : Bs) : (⟨l.toArray⟩ : ByteArray).size = l.length := rfl

theorem two {w w' : World} {j b : Nat} {base : Bs} {n size : Int} {r : Bool} {l : Int} (h : Jb w j b base n size r l) (hb : Below w.heap.size w w') : w'.cell? ⟨j, 0, none⟩ = some (.pointer (some ⟨b, 0, none⟩)) ∧ w'.cell? ⟨j, 1, none⟩ = some (.string ⟨base.toArray⟩) :=
  ⟨(h.below hb).cells.1, (h.below hb).cells.2.1⟩
theorem two0 {w : World} {j b : Nat} {base : Bs} {n size : Int} {r : Bool} {l : Int} (h : Jb w j b base n size r l) : w.cell? ⟨j, 0, none⟩ = some (.pointer (some ⟨b, 0, none⟩)) ∧ w.cell? ⟨j, 1, none⟩ = some (.string ⟨base.toArray⟩) := ⟨h.cells.1, h.cells.2.1⟩
theorem three {w w' : World} {j b : Nat} {base : Bs} {n size : Int} {r : Bool} {l : Int} (h : Jb w j b base n size r l) (hb : Below w.heap.size w w') : w'.cell? ⟨j, 0, none⟩ = some (.pointer (some ⟨b, 0, none⟩)) ∧ w'.cell? ⟨j, 1, none⟩ = some (.string ⟨base.toArray⟩) ∧ w'.cell? ⟨j, 2, none⟩ = some (.int .i64 n) :=
  ⟨(h.below hb).cells.1, (h.below hb).cells.2.1, (h.below hb).cells.2.2.1⟩
theorem three0 {w : World} {j b : Nat} {base : Bs} {n size : Int} {r : Bool} {l : Int} (h : Jb w j b base n size r l) : w.cell? ⟨j, 0, none⟩ = some (.pointer (some ⟨b, 0, none⟩)) ∧ w.cell? ⟨j, 1, none⟩ = some (.string ⟨base.toArray⟩) ∧ w.cell? ⟨j, 2, none⟩ = some (.int .i64 n) := ⟨h.cells.1, h.cells.2.1, h.cells.2.2.1⟩
/-- no error -/
theorem pt_of {w w' : World} {bs : Nat → Prop} {b : Nat} {t' : St} {e : Ending} (hd : DoesE w bs e w' b t' 0) : e = .returned .nilIface ∧ ∃ bs2, Pt w bs w' bs2 b t' := by
  obtain ⟨v, k, bs2, he, hE, -, hs, ho, hn⟩ := hd
  rcases hE with ⟨_, rfl⟩ | ⟨hc, _⟩
  · exact ⟨he, bs2, hs, ho, hn⟩
  · exact absurd rfl hc
/-- an error -/
theorem er_of {w w' : World} {bs : Nat → Prop} {b : Nat} {t' : St} {e : Ending} {C : Int} (hc : ¬ C = 0) (hd : DoesE w bs e w' b t' C) : ∃ k bs', e = .returned (.iface 116 (.pointer (some ⟨k, 0, none⟩))) ∧
    EAt w' (.iface 116 (.pointer (some ⟨k, 0, none⟩))) C k ∧ (C ≠ 0 → w.heap.size ≤ k ∧ ¬ bs' k) ∧ Sto w' bs' b t' ∧ Out bs w w' ∧ ∀ i, bs' i → bs i ∨ w.heap.size ≤ i := by
  obtain ⟨v, k, bs2, he, hE, hr⟩ := hd
  rcases hE with ⟨h0, _⟩ | ⟨h0, rfl, hh⟩
  · exact absurd h0 hc
  · exact ⟨k, bs2, he, .inr ⟨h0, rfl, hh⟩, hr⟩

set_option maxRecDepth 100000 in
set_option maxHeartbeats 8000000 in
theorem jput_calls {w : World} {bs : Nat → Prop} {b j : Nat} {t : St} {base : Bs} {n size : Int} {r : Bool} {l : Int} (h : Sto w bs b t) (hj : Jb w j b base n size r l) (hf : ¬ bs j) (hbase : base.length ≤ 1000000) (hs1 : 64 ≤ size) (hs2 : size ≤ 1048576) (k a : Int) (s : ByteArray) :
    Calls Tryz.prog 28 #[pb j, .agg #[.int .i64 k, .int .i64 a, .string s]] w fun e w' => DoesE w bs e w' b (jpT t base (held n) size ⟨k, a, s⟩) (jpC t base (held n) size ⟨k, a, s⟩) := by
  have P1 := Lib.hid ((Pt.start h).same ((Below.refl w.heap.size w).alloc (Nat.le_refl _) (.cells #[.int .i64 k, .int .i64 a, .string s] 36 (0, 0))))
  have HP := Lib.hid fun W => (recput k a s W)
  have HJ := Lib.hid hj
  have HF := Lib.hid hf
  have HBS := Lib.hid hbase
  by_cases hc : chk ⟨k, a, s⟩ = 0
  · have eT : jpT t base (held n) size ⟨k, a, s⟩ = putT t base (held n) size (bytesOf ⟨k, a, s⟩) := if_pos hc
    have eC : jpC t base (held n) size ⟨k, a, s⟩ = putC t base (held n) size (bytesOf ⟨k, a, s⟩) := if_pos hc
    rw [hc, Rec.putV_ok hc] at HP
    rw [eT, eC]
    have hlen := Rec.bytes_len ⟨k, a, s⟩
    have h4 := (Rec.chk_ok.1 hc).2.2.2.2
    obtain ⟨y, hy⟩ : ∃ y, bytesOf ⟨k, a, s⟩ = y := ⟨_, rfl⟩
    rw [hy] at HP hlen ⊢
    obtain ⟨T, hT⟩ : ∃ T, putT t base (held n) size y = T := ⟨_, rfl⟩
    obtain ⟨C, hC⟩ : ∃ C, putC t base (held n) size y = C := ⟨_, rfl⟩
    rw [hT, hC]
    have HT := Lib.hid hT
    have HC := Lib.hid hC
    clear hT hC
    have hyl : y.length ≤ 4110 := by rw [hlen]; simp only at h4 ⊢; omega
    clear hc eT eC hlen h4 hy
    have hg := (h.ok.got base).2
    have ht := (tot_top h.ok).2
    have hL0 : (got t.L base).bs.length ≤ 16777216 := by omega
    clear hg ht h hj hf hbase
    go_enter Tryz.func28, Tryz.ntmps28
    go_wp2_with fail
    refine (HP.out _).mono ?_
    rintro e w2 ⟨rfl, hb⟩
    have P2 := Lib.hid (P1.out.same hb)
    clear hb P1 HP
    have J2 := Lib.hid (HJ.out.pt HF.out P2.out)
    obtain ⟨c0, c1, c2, c3, c4, c5⟩ := J2.out.cells
    have HN2 := Lib.hid (newest_calls c1)
    have HS2 := Lib.hid (sto_size P2.out.sto ⟨base.toArray⟩ (by rw [size_b]; have := HBS.out; unfold maxLen; omega))
    rw [show (⟨base.toArray⟩ : ByteArray).data.toList = base from rfl] at HS2
    have HS3 := Lib.hid fun W (hb : Below w2.heap.size w2 W) => (sto_size (P2.out.sto.below hb) ⟨base.toArray⟩ (by rw [size_b]; have := HBS.out; unfold maxLen; omega)).mono fun e w' h => (⟨h.1, hb.trans (h.2.mono hb.size)⟩ : _ ∧ Below w2.heap.size w2 w')
    clear HS2
    go_wp2_with fail
    go_region_held3 (fun w' => Below w2.heap.size w2 w' ∧ w'.cell? ⟨j, 0, none⟩ = some (.pointer (some ⟨b, 0, none⟩)) ∧ w'.cell? ⟨j, 1, none⟩ = some (.string ⟨base.toArray⟩))
      (first
        | exact held2 J2.out (bd1 _)
        | exact held2 J2.out (bdN _ _)
        | exact held2 J2.out hb5
        | exact held2 J2.out (hb5.trans (bdN _ _)))
      (first
        | (go_at_call 25; go_split_ands; refine (newest_calls (by assumption)).mono ?_; rintro e w5 ⟨rfl, rfl⟩; have hb5 := (show Below w2.heap.size w2 _ by assumption))
        | (go_at_call 18; go_split_ands; refine (HS3.out _ (by assumption)).mono ?_; rintro e w5 ⟨rfl, hb5⟩))
    have P3 := Lib.hid (P2.out.same hb5)
    have J3 := Lib.hid (J2.out.below hb5)
    clear hb5 P2 J2 c0 c1 c2 c3 c4 c5 HN2 HS3
    obtain ⟨c0, c1, c2, c3, c4, c5⟩ := J3.out.cells
    obtain ⟨L, hL⟩ : ∃ L, (got t.L base).bs.length = L := ⟨_, rfl⟩
    have HL := Lib.hid hL
    have hFB := fun q (hq : (decide (0 < L) && decide (size < (L : Int) + y.length)) = q) => (show fullB t base size y = q by unfold fullB; rw [hL]; exact hq)
    rw [hL] at hL0
    rw [hL]
    clear hL
    rcases Nat.eq_zero_or_pos L with h0 | h0
    · subst h0
      have HFB := Lib.hid (hFB false (by simp))
      clear hFB
      have HN3 := Lib.hid (newest_calls c1)
      have HA3 := Lib.hid fun W (hb : Below w5.heap.size w5 W) => (sto_app (P3.out.sto.below hb) ⟨base.toArray⟩ ⟨y.toArray⟩ (by rw [size_b]; omega)).mono fun e w' h => (P3.out.same hb).ends h
      rw [show (⟨base.toArray⟩ : ByteArray).data.toList = base from rfl, show (⟨y.toArray⟩ : ByteArray).data.toList = y from rfl] at HA3
      obtain ⟨e1, e2⟩ := put_room (K := held n) HFB.out
      rw [← e1, ← e2, HT.out, HC.out] at HA3
      clear e1 e2 HT HC
      go_wp2_with fail
      go_region_with (first
        | (go_at_call 25; refine (newest_calls (by first | exact c1 | assumption)).mono ?_; rintro e w' ⟨rfl, rfl⟩)
        | (go_at_call 48; refine (HA3.out _ (by first | exact Below.refl _ _ | exact bd1 _ | exact bdN _ _)).mono ?_; rintro e w6 hd; obtain ⟨v6, k6, bs6, rfl, hd2⟩ := hd; replace hd2 := Lib.hid hd2))
      all_goals
        go_wp2_with fail
        go_ret
        exact ⟨v6, k6, bs6, rfl, hd2.out⟩
    · have g0 : (0 : Int) < (L : Int) := by omega
      by_cases hsz : size < (L : Int) + y.length
      · have HFB := Lib.hid (hFB true (by rw [decide_eq_true h0, decide_eq_true hsz]; rfl))
        clear hFB h0
        have HSY := Lib.hid fun W (hb : Below w5.heap.size w5 W) => (sto_syn (P3.out.sto.below hb) ⟨base.toArray⟩).mono fun e w' h => (P3.out.same hb).ends h
        rw [show (⟨base.toArray⟩ : ByteArray).data.toList = base from rfl] at HSY
        by_cases hc : synC t base = 0
        · have HT3 := Lib.hid (fun h2 : ¬ trC (synT t base) (ser base (held n)) = 0 => put_turn (K := held n) HFB.out hc h2)
          have HT4 := Lib.hid (fun h2 : trC (synT t base) (ser base (held n)) = 0 => put_new (K := held n) HFB.out hc h2)
          rw [HT.out, HC.out] at HT3 HT4
          rw [hc] at HSY
          clear hc HFB HT HC
          go_wp2_with fail
          go_region_held3 (fun w' => w'.cell? ⟨j, 0, none⟩ = some (.pointer (some ⟨b, 0, none⟩)) ∧ w'.cell? ⟨j, 1, none⟩ = some (.string ⟨base.toArray⟩))
            (first
              | exact two J3.out (bd1 _)
              | exact two J3.out (bdN _ _)
              | exact two0 (HJ.out.out hp6.out HF.out))
            (first
              | (go_at_call 25; go_split_ands; refine (newest_calls (by assumption)).mono ?_; rintro e w' ⟨rfl, rfl⟩)
              | (go_at_call 24; go_split_ands; refine (HSY.out _ (by first | exact bd1 _ | exact bdN _ _ | exact Below.refl _ _)).mono ?_; rintro e w6 hd; obtain ⟨rfl, bs6, hp6⟩ := pt_of hd))
          have P6 := Lib.hid hp6
          have J6 := Lib.hid (HJ.out.out hp6.out HF.out)
          clear hp6 hd P3 J3 c0 c1 c2 c3 c4 c5 HSY
          obtain ⟨c0, c1, c2, c3, c4, c5⟩ := J6.out.cells
          generalize synT t base = t6 at *
          have HTU := Lib.hid fun W (hb : Below w6.heap.size w6 W) => (turn_calls (P6.out.sto.below hb) base HBS.out n).mono fun e w' h => (P6.out.same hb).ends h
          by_cases hc : trC t6 (ser base (held n)) = 0
          · obtain ⟨e1, e2⟩ := HT4.out hc
            have HT := Lib.hid e1
            have HC := Lib.hid e2
            rw [hc] at HTU
            clear e1 e2 HT3 HT4 hc
            go_wp2_with fail
            go_region_held3 (fun w' => w'.cell? ⟨j, 0, none⟩ = some (.pointer (some ⟨b, 0, none⟩)) ∧ w'.cell? ⟨j, 1, none⟩ = some (.string ⟨base.toArray⟩) ∧ w'.cell? ⟨j, 2, none⟩ = some (.int .i64 n))
              (first
                | exact three J6.out (bd1 _)
                | exact three J6.out (bdN _ _)
                | exact three0 (HJ.out.out hp7.out HF.out))
              (first
                | (go_at_call 47; go_split_ands; refine (HTU.out _ (by first | exact bd1 _ | exact bdN _ _ | exact Below.refl _ _)).mono ?_; rintro e w7 hd; obtain ⟨rfl, bs7, hp7⟩ := pt_of hd))
            have P7 := Lib.hid hp7
            have J7 := Lib.hid (HJ.out.out hp7.out HF.out)
            clear hp7 hd P6 J6 c0 c1 c2 c3 c4 c5 HTU
            obtain ⟨c0, c1, c2, c3, c4, c5⟩ := J7.out.cells
            generalize trT t6 (ser base (held n)) = t7 at *
            have HA7 := Lib.hid fun W (hb : Below w7.heap.size w7 W) => (sto_app (P7.out.sto.below hb) ⟨base.toArray⟩ ⟨y.toArray⟩ (by rw [size_b]; omega)).mono fun e w' h => (P7.out.same hb).ends h
            rw [show (⟨base.toArray⟩ : ByteArray).data.toList = base from rfl, show (⟨y.toArray⟩ : ByteArray).data.toList = y from rfl, ← HT.out, ← HC.out] at HA7
            clear HT HC
            go_wp2_with fail
            go_region_held3 (fun w' => w'.cell? ⟨j, 0, none⟩ = some (.pointer (some ⟨b, 0, none⟩)) ∧ w'.cell? ⟨j, 1, none⟩ = some (.string ⟨base.toArray⟩))
              (first
                | exact two J7.out (bd1 _)
                | exact two J7.out (bdN _ _)
                | exact two0 (HJ.out.out hd8.2.2.2.1 HF.out))
              (first
                | (go_at_call 25; go_split_ands; refine (newest_calls (by assumption)).mono ?_; rintro e w' ⟨rfl, rfl⟩)
                | (go_at_call 48; go_split_ands; refine (HA7.out _ (by first | exact bd1 _ | exact bdN _ _ | exact Below.refl _ _)).mono ?_; rintro e w8 hd; obtain ⟨v8, k8, bs8, rfl, hd8⟩ := hd))
            have HD8 := Lib.hid hd8
            clear hd8
            go_wp2_with fail
            go_ret
            exact ⟨v8, k8, bs8, rfl, HD8.out⟩
          · obtain ⟨e1, e2⟩ := HT3.out hc
            have HT := Lib.hid e1
            have HC := Lib.hid e2
            have HC0 := Lib.hid hc
            rw [← HT.out, ← HC.out] at HTU
            rw [← HC.out] at HC0
            clear e1 e2 HT3 HT4 hc HT HC
            go_wp2_with fail
            go_region_held3 (fun w' => w'.cell? ⟨j, 0, none⟩ = some (.pointer (some ⟨b, 0, none⟩)) ∧ w'.cell? ⟨j, 1, none⟩ = some (.string ⟨base.toArray⟩) ∧ w'.cell? ⟨j, 2, none⟩ = some (.int .i64 n))
              (first
                | exact three J6.out (bd1 _)
                | exact three J6.out (bdN _ _)
                | exact three0 (HJ.out.out hp7.2.2.2.1 HF.out))
              (first
                | (go_at_call 47; go_split_ands; refine (HTU.out _ (by first | exact bd1 _ | exact bdN _ _ | exact Below.refl _ _)).mono ?_; rintro e w7 hd; obtain ⟨k7, bs7, rfl, hp7⟩ := er_of HC0.out hd))
            have HD8 := Lib.hid hp7
            clear hp7
            go_wp2_with fail
            go_ret
            exact ⟨_, k7, bs7, rfl, HD8.out⟩
        · obtain ⟨e1, e2⟩ := put_syn (K := held n) HFB.out hc
          have HC0 := Lib.hid hc
          rw [← e1, ← e2, HT.out, HC.out] at HSY
          rw [← e2, HC.out] at HC0
          clear e1 e2 HT HC HFB hc
          go_wp2_with fail
          go_region_held3 (fun w' => w'.cell? ⟨j, 0, none⟩ = some (.pointer (some ⟨b, 0, none⟩)) ∧ w'.cell? ⟨j, 1, none⟩ = some (.string ⟨base.toArray⟩))
            (first
              | exact two J3.out (bd1 _)
              | exact two J3.out (bdN _ _)
              | exact two0 (HJ.out.out hp6.2.2.2.1 HF.out))
            (first
              | (go_at_call 25; go_split_ands; refine (newest_calls (by assumption)).mono ?_; rintro e w' ⟨rfl, rfl⟩)
              | (go_at_call 24; go_split_ands; refine (HSY.out _ (by first | exact bd1 _ | exact bdN _ _ | exact Below.refl _ _)).mono ?_; rintro e w6 hd; obtain ⟨k6, bs6, rfl, hp6⟩ := er_of HC0.out hd))
          have HD8 := Lib.hid hp6
          clear hp6
          go_wp2_with fail
          go_ret
          exact ⟨_, k6, bs6, rfl, HD8.out⟩
      · have HFB := Lib.hid (hFB false (by rw [decide_eq_false hsz]; simp))
        clear hFB h0
        have HN3 := Lib.hid (newest_calls c1)
        have HA3 := Lib.hid fun W (hb : Below w5.heap.size w5 W) => (sto_app (P3.out.sto.below hb) ⟨base.toArray⟩ ⟨y.toArray⟩ (by rw [size_b]; omega)).mono fun e w' h => (P3.out.same hb).ends h
        rw [show (⟨base.toArray⟩ : ByteArray).data.toList = base from rfl, show (⟨y.toArray⟩ : ByteArray).data.toList = y from rfl] at HA3
        obtain ⟨e1, e2⟩ := put_room (K := held n) HFB.out
        rw [← e1, ← e2, HT.out, HC.out] at HA3
        clear e1 e2 HT HC
        go_wp2_with fail
        go_region_with (first
          | (go_at_call 25; refine (newest_calls (by first | exact c1 | assumption)).mono ?_; rintro e w' ⟨rfl, rfl⟩)
          | (go_at_call 48; refine (HA3.out _ (by first | exact Below.refl _ _ | exact bd1 _ | exact bdN _ _)).mono ?_; rintro e w6 hd; obtain ⟨v6, k6, bs6, rfl, hd2⟩ := hd; replace hd2 := Lib.hid hd2))
        all_goals
          go_wp2_with fail
          go_ret
          exact ⟨v6, k6, bs6, rfl, hd2.out⟩
  · have eT : jpT t base (held n) size ⟨k, a, s⟩ = t := if_neg hc
    have eC : jpC t base (held n) size ⟨k, a, s⟩ = chk ⟨k, a, s⟩ := if_neg hc
    rw [eT, eC]
    obtain ⟨c, hcc⟩ : ∃ c, chk ⟨k, a, s⟩ = c := ⟨_, rfl⟩
    rw [hcc] at HP hc ⊢
    have hb0 : (c != 0) = true := by simpa using hc
    have HC0 := Lib.hid hc
    clear eT eC hcc hc h hj hf hbase
    go_enter Tryz.func28, Tryz.ntmps28
    go_wp2_with fail
    refine (HP.out _).mono ?_
    rintro e w2 ⟨rfl, hb⟩
    have P2 := Lib.hid (P1.out.same hb)
    clear hb P1 HP
    go_wp2_with fail
    refine (Flt.new_some c 0 ⟨#[]⟩ HC0.out _).mono ?_
    rintro e w3 ⟨rfl, rfl⟩
    go_wp2_with fail
    go_ret
    exact P2.out.ends (doesE_err HC0.out P2.out.sto (Out.refl _ _) rfl rfl)
end Go.Proofs.YtpaeemkdjgbejaaGreat.Jrn
end

section
namespace Go.Proofs.YtpaeemkdjgbejaaGreat.Jrn
open Go.RowKit Go.Proofs.YtpaeemkdjgbejaaGreat.Own Go.Proofs.YtpaeemkdjgbejaaGreat.Sto Go.Proofs.YtpaeemkdjgbejaaGreat.Gen Go.Proofs.YtpaeemkdjgbejaaGreat.Flt
open Go.Proofs.YtpaeemkdjgbejaaGreat.Rec (Itm chk bytesOf flat)

/-- a journal and its store in memory -/
structure Jat (w : World) (bs : Nat → Prop) (j b : Nat) (t : St) (base : Bs) (n size : Int) (r : Bool) (l : Int) : Prop where
  sto : Sto w bs b t
  jb : Jb w j b base n size r l
  far : ¬ bs j
/-- what a call of a journal's leaves -/
def JPost (w : World) (bs : Nat → Prop) (j b : Nat) (base : Bs) (n size : Int) (t' : St) (r' : Bool) (l' : Int) (q : Bool) (e : Ending) (w' : World) : Prop :=
  e = .returned (.bool q) ∧ ∃ bs', Jat w' bs' j b t' base n size r' l' ∧ Out (fun k => bs k ∨ k = j) w w' ∧ ∀ i, bs' i → bs i ∨ w.heap.size ≤ i
section
variable {w W W' : World} {bs bs1 : Nat → Prop} {j b : Nat} {t t1 : St} {base : Bs} {n size : Int} {r q : Bool} {l : Int}
theorem Jat.below (h : Jat w bs j b t base n size r l) (hb : Below w.heap.size w W) : Jat W bs j b t base n size r l := ⟨h.sto.below hb, h.jb.below hb, h.far⟩
theorem Jat.same (h : Jat w bs j b t base n size r l) (hb : Below w.heap.size w W) : JPost w bs j b base n size t r l q (.returned (.bool q)) W :=
  ⟨rfl, bs, h.below hb, Out.ofNew hb, fun _ h => .inl h⟩
theorem Jat.pt (h : Jat w bs j b t base n size r l) (hp : Pt w bs W bs1 b t1) : Jat W bs1 j b t1 base n size r l :=
  ⟨hp.sto, h.jb.out hp.out h.far, fun hi => by
    rcases hp.new j hi with h1 | h1
    · exact h.far h1
    · have := at_lt h.jb.box; omega⟩
def setR (W : World) (j : Nat) (r : Bool) : World := W.setCell ⟨j, 4, none⟩ (.bool r)
def setL (W : World) (j : Nat) (l : Int) : World := W.setCell ⟨j, 5, none⟩ (.int .i64 l)
theorem Jat.setR (h : Jat w bs j b t base n size r l) (r' : Bool) : Jat (setR w j r') bs j b t base n size r' l ∧ Out (fun k => k = j) w (setR w j r') := by
  have o := (Out.refl (fun k => k = j) w).setCell (p := ⟨j, 4, none⟩) (fun _ => rfl) (.bool r')
  exact ⟨⟨h.sto.out o fun k hk e => h.far (by rw [← e]; exact hk), ⟨by have := at_set h.jb.box 4 (.bool r'); simpa [jcs, Jrn.setR, Jrn.setL] using this⟩, h.far⟩, o⟩
theorem Jat.setL (h : Jat w bs j b t base n size r l) (l' : Int) : Jat (setL w j l') bs j b t base n size r l' ∧ Out (fun k => k = j) w (setL w j l') := by
  have o := (Out.refl (fun k => k = j) w).setCell (p := ⟨j, 5, none⟩) (fun _ => rfl) (.int .i64 l')
  exact ⟨⟨h.sto.out o fun k hk e => h.far (by rw [← e]; exact hk), ⟨by have := at_set h.jb.box 5 (.int .i64 l'); simpa [jcs, Jrn.setR, Jrn.setL] using this⟩, h.far⟩, o⟩
/-- behind what is put: the box is written -/
theorem Pt.ends1 (hp : Pt w bs W bs1 b t1) {base : Bs} (h : Jat W' bs1 j b t1 base n size r l) (ho : Out (fun k => k = j) W W') : JPost w bs j b base n size t1 r l q (.returned (.bool q)) W' :=
  ⟨rfl, bs1, h, (hp.out.mono (fun _ _ h => .inl h)).trans ho (fun _ _ h => .inr h), hp.new⟩
end

set_option maxRecDepth 100000 in
set_option maxHeartbeats 4000000 in
/-- it rests: one more is lost -/
theorem add_rest {w : World} {bs : Nat → Prop} {j b : Nat} {t : St} {base : Bs} {n size l : Int} (h : Jat w bs j b t base n size true l) (l0 : 0 ≤ l) (l1 : l ≤ 1000000) (k a : Int) (s : ByteArray) (hx : chk ⟨k, a, s⟩ = 0) :
    Calls Tryz.prog 13 #[pb j, .agg #[.int .i64 k, .int .i64 a, .string s]] w (JPost w bs j b base n size t true (l + 1) false) := by
  have P1 := Lib.hid ((Pt.start h.sto).same ((Below.refl w.heap.size w).alloc (Nat.le_refl _) (.cells #[.int .i64 k, .int .i64 a, .string s] 36 (0, 0))))
  have H := Lib.hid h
  have HC := Lib.hid fun W => (hx ▸ Rec.check_calls k a s W : Calls Tryz.prog 31 #[.agg #[.int .i64 k, .int .i64 a, .string s]] W fun e w' => e = .returned (.int .i64 0) ∧ Below W.heap.size W w')
  have HM := Lib.hid (made_calls (H.out.pt P1.out).jb)
  clear h hx
  go_enter Tryz.func13, Tryz.ntmps13
  go_wp2_with fail
  refine HM.out.mono ?_
  rintro e w' ⟨rfl, rfl⟩
  go_wp2_with fail
  refine (HC.out _).mono ?_
  rintro e w2 ⟨rfl, hb⟩
  have P2 := Lib.hid (P1.out.same hb)
  clear hb P1
  have J2 := Lib.hid (H.out.pt P2.out)
  obtain ⟨c0, c1, c2, c3, c4, c5⟩ := J2.out.jb.cells
  have f5 := at_frozen J2.out.jb.box 5
  have lt := at_lt J2.out.jb.box
  go_wp2_with fail
  go_ret
  exact P2.out.ends1 (J2.out.setL _).1 (J2.out.setL _).2

set_option maxRecDepth 100000 in
set_option maxHeartbeats 4000000 in
/-- an item is taken -/
theorem add_ok {w : World} {bs : Nat → Prop} {j b : Nat} {t : St} {base : Bs} {n size l : Int} (h : Jat w bs j b t base n size false l) (hb : base.length ≤ 1000000) (s1 : 64 ≤ size) (s2 : size ≤ 1048576) (_l0 : 0 ≤ l) (_l1 : l ≤ 1000000) (k a : Int) (s : ByteArray) (hx : chk ⟨k, a, s⟩ = 0) (hy : putC t base (held n) size (bytesOf ⟨k, a, s⟩) = 0) :
    Calls Tryz.prog 13 #[pb j, .agg #[.int .i64 k, .int .i64 a, .string s]] w (JPost w bs j b base n size (putT t base (held n) size (bytesOf ⟨k, a, s⟩)) false l true ) := by
  have P1 := Lib.hid ((Pt.start h.sto).same ((Below.refl w.heap.size w).alloc (Nat.le_refl _) (.cells #[.int .i64 k, .int .i64 a, .string s] 36 (0, 0))))
  have H := Lib.hid h
  have HC := Lib.hid fun W => (hx ▸ Rec.check_calls k a s W : Calls Tryz.prog 31 #[.agg #[.int .i64 k, .int .i64 a, .string s]] W fun e w' => e = .returned (.int .i64 0) ∧ Below W.heap.size W w')
  have HM := Lib.hid (made_calls (H.out.pt P1.out).jb)
  have HX := Lib.hid hx
  have HY := Lib.hid hy
  clear h hx hy
  go_enter Tryz.func13, Tryz.ntmps13
  go_wp2_with fail
  refine HM.out.mono ?_
  rintro e w' ⟨rfl, rfl⟩
  go_wp2_with fail
  refine (HC.out _).mono ?_
  rintro e w2 ⟨rfl, hb2⟩
  have P2 := Lib.hid (P1.out.same hb2)
  have HI := (hb2.block w.heap.size (by simp)).trans (at_new w (.cells #[.int .i64 k, .int .i64 a, .string s] 36 (0, 0)))
  clear hb2 P1
  obtain ⟨i0, i1, i2⟩ := Rec.box3 HI
  clear HI
  have J2 := Lib.hid (H.out.pt P2.out)
  have HP := Lib.hid (jput_calls P2.out.sto J2.out.jb J2.out.far hb s1 s2 k a s)
  rw [show jpT t base (held n) size ⟨k, a, s⟩ = putT t base (held n) size (bytesOf ⟨k, a, s⟩) from if_pos HX.out, show jpC t base (held n) size ⟨k, a, s⟩ = putC t base (held n) size (bytesOf ⟨k, a, s⟩) from if_pos HX.out] at HP
  obtain ⟨c0, c1, c2, c3, c4, c5⟩ := J2.out.jb.cells
  go_wp2_with fail
  refine HP.out.mono ?_
  intro e w3 hd
  rw [HY.out] at hd
  obtain ⟨rfl, bs3, hp3⟩ := pt_of hd
  have P3 := Lib.hid (P2.out.go hp3.sto hp3.out hp3.new)
  clear hp3
  have J3 := Lib.hid (H.out.pt P3.out)
  have j3 := J3.out.jb.box
  have f4 := at_frozen j3 4
  have f5 := at_frozen j3 5
  have lt := at_lt j3
  have d4 : w3.cell? ⟨j, 4, none⟩ = some (.bool false) := at_cell j3 4
  have d5 : w3.cell? ⟨j, 5, none⟩ = some (.int .i64 l) := at_cell j3 5
  clear j3 c0 c1 c2 c3 c4 c5 i0 i1 i2 hd
  go_wp2_with fail
  go_ret
  exact P3.out.ends1 (J3.out.setR _).1 (J3.out.setR _).2

set_option maxRecDepth 100000 in
set_option maxHeartbeats 4000000 in
/-- an item that is lost -/
theorem add_no {w : World} {bs : Nat → Prop} {j b : Nat} {t : St} {base : Bs} {n size l : Int} (h : Jat w bs j b t base n size false l) (hb : base.length ≤ 1000000) (s1 : 64 ≤ size) (s2 : size ≤ 1048576) (l0 : 0 ≤ l) (l1 : l ≤ 1000000) (k a : Int) (s : ByteArray) (hx : chk ⟨k, a, s⟩ = 0) (hy : ¬ putC t base (held n) size (bytesOf ⟨k, a, s⟩) = 0) :
    Calls Tryz.prog 13 #[pb j, .agg #[.int .i64 k, .int .i64 a, .string s]] w (JPost w bs j b base n size (putT t base (held n) size (bytesOf ⟨k, a, s⟩)) true (l + 1) false ) := by
  have P1 := Lib.hid ((Pt.start h.sto).same ((Below.refl w.heap.size w).alloc (Nat.le_refl _) (.cells #[.int .i64 k, .int .i64 a, .string s] 36 (0, 0))))
  have H := Lib.hid h
  have HC := Lib.hid fun W => (hx ▸ Rec.check_calls k a s W : Calls Tryz.prog 31 #[.agg #[.int .i64 k, .int .i64 a, .string s]] W fun e w' => e = .returned (.int .i64 0) ∧ Below W.heap.size W w')
  have HM := Lib.hid (made_calls (H.out.pt P1.out).jb)
  have HX := Lib.hid hx
  have HY := Lib.hid hy
  clear h hx hy
  go_enter Tryz.func13, Tryz.ntmps13
  go_wp2_with fail
  refine HM.out.mono ?_
  rintro e w' ⟨rfl, rfl⟩
  go_wp2_with fail
  refine (HC.out _).mono ?_
  rintro e w2 ⟨rfl, hb2⟩
  have P2 := Lib.hid (P1.out.same hb2)
  have HI := (hb2.block w.heap.size (by simp)).trans (at_new w (.cells #[.int .i64 k, .int .i64 a, .string s] 36 (0, 0)))
  clear hb2 P1
  obtain ⟨i0, i1, i2⟩ := Rec.box3 HI
  clear HI
  have J2 := Lib.hid (H.out.pt P2.out)
  have HP := Lib.hid (jput_calls P2.out.sto J2.out.jb J2.out.far hb s1 s2 k a s)
  rw [show jpT t base (held n) size ⟨k, a, s⟩ = putT t base (held n) size (bytesOf ⟨k, a, s⟩) from if_pos HX.out, show jpC t base (held n) size ⟨k, a, s⟩ = putC t base (held n) size (bytesOf ⟨k, a, s⟩) from if_pos HX.out] at HP
  obtain ⟨c0, c1, c2, c3, c4, c5⟩ := J2.out.jb.cells
  go_wp2_with fail
  refine HP.out.mono ?_
  intro e w3 hd
  obtain ⟨k3, bs3, rfl, hd3⟩ := er_of HY.out hd
  have P3 := Lib.hid (P2.out.go hd3.2.2.1 hd3.2.2.2.1 hd3.2.2.2.2)
  clear hd3
  have J3 := Lib.hid (H.out.pt P3.out)
  have j3 := J3.out.jb.box
  have f4 := at_frozen j3 4
  have f5 := at_frozen j3 5
  have lt := at_lt j3
  have d4 : w3.cell? ⟨j, 4, none⟩ = some (.bool false) := at_cell j3 4
  have d5 : w3.cell? ⟨j, 5, none⟩ = some (.int .i64 l) := at_cell j3 5
  clear j3 c0 c1 c2 c3 c4 c5 i0 i1 i2 hd
  go_wp2_with fail
  go_ret
  exact P3.out.ends1 ((J3.out.setR _).1.setL _).1 ((J3.out.setR _).2.trans ((J3.out.setR _).1.setL _).2 (fun _ _ h => h))
end Go.Proofs.YtpaeemkdjgbejaaGreat.Jrn
end

section
namespace Go.Proofs.YtpaeemkdjgbejaaGreat.Jrn
open Go.RowKit Go.Proofs.YtpaeemkdjgbejaaGreat.Own Go.Proofs.YtpaeemkdjgbejaaGreat.Sto Go.Proofs.YtpaeemkdjgbejaaGreat.Gen Go.Proofs.YtpaeemkdjgbejaaGreat.Flt
open Go.Proofs.YtpaeemkdjgbejaaGreat.Rec (Itm chk bytesOf flat)

theorem er_err {w : World} {C : Int} {k : Nat} (hc : ¬ C = 0) (h : EAt w (.iface 116 (.pointer (some ⟨k, 0, none⟩))) C k) : Err w (k + 1) (.iface 116 (.pointer (some ⟨k, 0, none⟩))) [⟨k, 0, []⟩] C := by
  rcases h with ⟨h0, _⟩ | ⟨_, _, hh⟩
  · exact absurd h0 hc
  · exact ⟨rfl, Nat.lt_succ_self _, _, hh, rfl⟩
/-! ### Sync -/
set_option maxRecDepth 100000 in
theorem sync_rest {w : World} {bs : Nat → Prop} {j b : Nat} {t : St} {base : Bs} {n size l : Int} (h : Jat w bs j b t base n size true l) :
    Calls Tryz.prog 8 #[pb j] w (JPost w bs j b base n size t true l false) := by
  have H := Lib.hid h
  have HM := Lib.hid (made_calls h.jb)
  obtain ⟨c0, c1, c2, c3, c4, c5⟩ := h.jb.cells
  clear h
  go_enter Tryz.func8, Tryz.ntmps8
  go_wp2_with (go_at_call 23; refine HM.out.mono ?_; rintro e w' ⟨rfl, rfl⟩)
  go_ret
  exact H.out.same (Below.refl _ _)

set_option maxRecDepth 100000 in
set_option maxHeartbeats 4000000 in
/-- all is sure -/
theorem sync_ok {w : World} {bs : Nat → Prop} {j b : Nat} {t : St} {base : Bs} {n size l : Int} (h : Jat w bs j b t base n size false l) (hy : synC t base = 0) :
    Calls Tryz.prog 8 #[pb j] w (JPost w bs j b base n size (synT t base) false l true) := by
  have H := Lib.hid h
  have HM := Lib.hid (made_calls h.jb)
  have HY := Lib.hid hy
  have HS := Lib.hid fun W (hb : Below w.heap.size w W) => (sto_syn (h.sto.below hb) ⟨base.toArray⟩).mono fun e w' hd => ((Pt.start h.sto).same hb).ends hd
  rw [show (⟨base.toArray⟩ : ByteArray).data.toList = base from rfl] at HS
  obtain ⟨c0, c1, c2, c3, c4, c5⟩ := h.jb.cells
  clear h hy
  go_enter Tryz.func8, Tryz.ntmps8
  go_wp2_with (go_at_call 23; refine HM.out.mono ?_; rintro e w' ⟨rfl, rfl⟩)
  go_region_held3 (fun w' => w'.cell? ⟨j, 0, none⟩ = some (.pointer (some ⟨b, 0, none⟩)) ∧ w'.cell? ⟨j, 1, none⟩ = some (.string ⟨base.toArray⟩))
    (first
      | exact two H.out.jb (bd1 _)
      | exact two H.out.jb (bdN _ _)
      | exact two0 (H.out.pt P3.out).jb)
    (first
      | (go_at_call 25; go_split_ands; refine (newest_calls (by assumption)).mono ?_; rintro e w' ⟨rfl, rfl⟩)
      | (go_at_call 24; go_split_ands; refine (HS.out _ (by first | exact bd1 _ | exact bdN _ _ | exact Below.refl _ _)).mono ?_; rintro e w3 hd; rw [HY.out] at hd; obtain ⟨rfl, bs3, hp3⟩ := pt_of hd; have P3 := Lib.hid hp3; clear hp3))
  have J3 := Lib.hid (H.out.pt P3.out)
  have j3 := J3.out.jb.box
  have f4 := at_frozen j3 4
  have lt := at_lt j3
  have d4 : w3.cell? ⟨j, 4, none⟩ = some (.bool false) := at_cell j3 4
  clear j3 c0 c1 c2 c3 c4 c5 hd
  go_wp2_with fail
  go_ret
  exact P3.out.ends1 (J3.out.setR _).1 (J3.out.setR _).2

set_option maxRecDepth 100000 in
set_option maxHeartbeats 4000000 in
/-- there is no such file -/
theorem sync_none {w : World} {bs : Nat → Prop} {j b : Nat} {t : St} {base : Bs} {n size l : Int} (h : Jat w bs j b t base n size false l) (hy : synC t base = 7) :
    Calls Tryz.prog 8 #[pb j] w (JPost w bs j b base n size (synT t base) false l true) := by
  have H := Lib.hid h
  have HM := Lib.hid (made_calls h.jb)
  have HY := Lib.hid hy
  have HS := Lib.hid fun W (hb : Below w.heap.size w W) => (sto_syn (h.sto.below hb) ⟨base.toArray⟩).mono fun e w' hd => ((Pt.start h.sto).same hb).ends hd
  rw [show (⟨base.toArray⟩ : ByteArray).data.toList = base from rfl] at HS
  obtain ⟨c0, c1, c2, c3, c4, c5⟩ := h.jb.cells
  clear h hy
  go_enter Tryz.func8, Tryz.ntmps8
  go_wp2_with (go_at_call 23; refine HM.out.mono ?_; rintro e w' ⟨rfl, rfl⟩)
  go_region_held3 (fun w' => w'.cell? ⟨j, 0, none⟩ = some (.pointer (some ⟨b, 0, none⟩)) ∧ w'.cell? ⟨j, 1, none⟩ = some (.string ⟨base.toArray⟩))
    (first
      | exact two H.out.jb (bd1 _)
      | exact two H.out.jb (bdN _ _)
      | exact two0 (H.out.pt P3.out).jb)
    (first
      | (go_at_call 25; go_split_ands; refine (newest_calls (by assumption)).mono ?_; rintro e w' ⟨rfl, rfl⟩)
      | (go_at_call 24; go_split_ands; refine (HS.out _ (by first | exact bd1 _ | exact bdN _ _ | exact Below.refl _ _)).mono ?_; rintro e w3 hd; have HC0 := Lib.hid (show ¬ synC t base = 0 by rw [HY.out]; decide); obtain ⟨k3, bs3, rfl, hd3⟩ := er_of HC0.out hd; have P3 := Lib.hid (show Pt w bs w3 bs3 b (synT t base) from ⟨hd3.2.2.1, hd3.2.2.2.1, hd3.2.2.2.2⟩); have HE := Lib.hid (er_err HC0.out hd3.1); clear hd3))
  have J3 := Lib.hid (H.out.pt P3.out)
  have j3 := J3.out.jb.box
  have f4 := at_frozen j3 4
  have lt := at_lt j3
  have d4 : w3.cell? ⟨j, 4, none⟩ = some (.bool false) := at_cell j3 4
  clear j3 c0 c1 c2 c3 c4 c5 hd
  rw [HY.out] at HE
  go_wp2_with fail
  refine (is_calls _ _ 7 7 _ _ HE.out).mono ?_
  rintro e w4 ⟨rfl, rfl⟩
  go_wp2_with fail
  go_ret
  exact P3.out.ends1 (J3.out.setR _).1 (J3.out.setR _).2

set_option maxRecDepth 100000 in
set_option maxHeartbeats 4000000 in
/-- it does not go -/
theorem sync_no {w : World} {bs : Nat → Prop} {j b : Nat} {t : St} {base : Bs} {n size l : Int} (h : Jat w bs j b t base n size false l) (hy : ¬ synC t base = 0 ∧ ¬ synC t base = 7) :
    Calls Tryz.prog 8 #[pb j] w (JPost w bs j b base n size (synT t base) true l false) := by
  have H := Lib.hid h
  have HM := Lib.hid (made_calls h.jb)
  have HY := Lib.hid hy
  have HS := Lib.hid fun W (hb : Below w.heap.size w W) => (sto_syn (h.sto.below hb) ⟨base.toArray⟩).mono fun e w' hd => ((Pt.start h.sto).same hb).ends hd
  rw [show (⟨base.toArray⟩ : ByteArray).data.toList = base from rfl] at HS
  obtain ⟨c0, c1, c2, c3, c4, c5⟩ := h.jb.cells
  clear h hy
  go_enter Tryz.func8, Tryz.ntmps8
  go_wp2_with (go_at_call 23; refine HM.out.mono ?_; rintro e w' ⟨rfl, rfl⟩)
  go_region_held3 (fun w' => w'.cell? ⟨j, 0, none⟩ = some (.pointer (some ⟨b, 0, none⟩)) ∧ w'.cell? ⟨j, 1, none⟩ = some (.string ⟨base.toArray⟩))
    (first
      | exact two H.out.jb (bd1 _)
      | exact two H.out.jb (bdN _ _)
      | exact two0 (H.out.pt P3.out).jb)
    (first
      | (go_at_call 25; go_split_ands; refine (newest_calls (by assumption)).mono ?_; rintro e w' ⟨rfl, rfl⟩)
      | (go_at_call 24; go_split_ands; refine (HS.out _ (by first | exact bd1 _ | exact bdN _ _ | exact Below.refl _ _)).mono ?_; rintro e w3 hd; have HC0 := Lib.hid HY.out.1; obtain ⟨k3, bs3, rfl, hd3⟩ := er_of HC0.out hd; have P3 := Lib.hid (show Pt w bs w3 bs3 b (synT t base) from ⟨hd3.2.2.1, hd3.2.2.2.1, hd3.2.2.2.2⟩); have HE := Lib.hid (er_err HC0.out hd3.1); clear hd3))
  have J3 := Lib.hid (H.out.pt P3.out)
  have j3 := J3.out.jb.box
  have f4 := at_frozen j3 4
  have lt := at_lt j3
  have d4 : w3.cell? ⟨j, 4, none⟩ = some (.bool false) := at_cell j3 4
  clear j3 c0 c1 c2 c3 c4 c5 hd
  obtain ⟨C, hC⟩ : ∃ C, synC t base = C := ⟨_, rfl⟩
  rw [hC] at HE
  have hq : (C == 7) = false := by have := HY.out.2; rw [hC] at this; simpa using this
  clear hC
  go_wp2_with fail
  refine (is_calls _ _ C 7 _ _ HE.out).mono ?_
  rw [hq]
  rintro e w4 ⟨rfl, rfl⟩
  go_wp2_with fail
  go_ret
  exact P3.out.ends1 (J3.out.setR _).1 (J3.out.setR _).2

/-! ### Reopen -/
set_option maxRecDepth 100000 in
set_option maxHeartbeats 4000000 in
/-- nothing was lost -/
theorem reopen_none {w : World} {bs : Nat → Prop} {j b : Nat} {t : St} {base : Bs} {n size l : Int} {r : Bool} (h : Jat w bs j b t base n size r l) (hl : l = 0) (now : Int) :
    Calls Tryz.prog 10 #[pb j, .int .i64 now] w (JPost w bs j b base n size t false 0 true) := by
  subst hl
  have J3 := Lib.hid h
  have P3 := Lib.hid (Pt.start h.sto)
  have HM := Lib.hid (made_calls h.jb)
  have j3 := h.jb.box
  obtain ⟨c0, c1, c2, c3, c4, c5⟩ := h.jb.cells
  have f4 := at_frozen j3 4
  have f5 := at_frozen j3 5
  have lt := at_lt j3
  clear h j3
  go_enter Tryz.func10, Tryz.ntmps10
  go_wp2_with (go_at_call 23; refine HM.out.mono ?_; rintro e w' ⟨rfl, rfl⟩)
  go_ret
  exact P3.out.ends1 ((J3.out.setR _).1.setL _).1 ((J3.out.setR _).2.trans ((J3.out.setR _).1.setL _).2 (fun _ _ h => h))

set_option maxRecDepth 100000 in
set_option maxHeartbeats 4000000 in
/-- what was lost is told -/
theorem reopen_ok {w : World} {bs : Nat → Prop} {j b : Nat} {t : St} {base : Bs} {n size l : Int} {r : Bool} (h : Jat w bs j b t base n size r l) (hb : base.length ≤ 1000000) (s1 : 64 ≤ size) (s2 : size ≤ 1048576) (l0 : 0 < l) (l1 : l ≤ 1000000) (now : Int) (hy : jpC t base (held n) size ⟨3, now, ⟨(Digit.dec l).toArray⟩⟩ = 0) :
    Calls Tryz.prog 10 #[pb j, .int .i64 now] w (JPost w bs j b base n size (jpT t base (held n) size ⟨3, now, ⟨(Digit.dec l).toArray⟩⟩) false 0 true) := by
  have H := Lib.hid h
  have HM := Lib.hid (made_calls h.jb)
  have HY := Lib.hid hy
  have HD := Lib.hid fun W => Digit.put_calls l (by omega) (by omega) W
  have P0 := Lib.hid (Pt.start h.sto)
  obtain ⟨c0, c1, c2, c3, c4, c5⟩ := h.jb.cells
  clear h hy
  go_enter Tryz.func10, Tryz.ntmps10
  go_wp2_with fail
  refine HM.out.mono ?_
  rintro e w' ⟨rfl, rfl⟩
  go_wp2_with fail
  refine (HD.out _).mono ?_
  rintro e w1 ⟨rfl, hb1⟩
  obtain ⟨gb, hgb⟩ : ∃ gb : ByteArray, (⟨(Digit.dec l).toArray⟩ : ByteArray) = gb := ⟨_, rfl⟩
  rw [hgb] at HY ⊢
  have HGB := Lib.hid hgb
  have P1 := Lib.hid (P0.out.same hb1)
  clear hb1 P0 hgb
  have P2 := Lib.hid (P1.out.same ((Below.refl w1.heap.size w1).alloc (Nat.le_refl _) (.cells #[.int .i64 3, .int .i64 now, .string gb] 36 (0, 0))))
  have J2 := Lib.hid (H.out.pt P2.out)
  have HP := Lib.hid (jput_calls P2.out.sto J2.out.jb J2.out.far hb s1 s2 3 now gb)
  clear c0 c1 c2 c3 c4 c5
  obtain ⟨c0, c1, c2, c3, c4, c5⟩ := (H.out.pt P1.out).jb.cells
  go_wp2_with fail
  refine HP.out.mono ?_
  intro e w3 hd
  rw [HY.out] at hd
  obtain ⟨rfl, bs3, hp3⟩ := pt_of hd
  have P3 := Lib.hid (P2.out.go hp3.sto hp3.out hp3.new)
  clear hp3
  have J3 := Lib.hid (H.out.pt P3.out)
  have j3 := J3.out.jb.box
  have f4 := at_frozen j3 4
  have f5 := at_frozen j3 5
  have lt := at_lt j3
  have d4 : w3.cell? ⟨j, 4, none⟩ = some (.bool r) := at_cell j3 4
  have d5 : w3.cell? ⟨j, 5, none⟩ = some (.int .i64 l) := at_cell j3 5
  clear j3 c0 c1 c2 c3 c4 c5 hd
  go_wp2_with fail
  go_ret
  rw [HGB.out]
  exact P3.out.ends1 ((J3.out.setR _).1.setL _).1 ((J3.out.setR _).2.trans ((J3.out.setR _).1.setL _).2 (fun _ _ h => h))

set_option maxRecDepth 100000 in
set_option maxHeartbeats 4000000 in
/-- it rests on -/
theorem reopen_no {w : World} {bs : Nat → Prop} {j b : Nat} {t : St} {base : Bs} {n size l : Int} {r : Bool} (h : Jat w bs j b t base n size r l) (hb : base.length ≤ 1000000) (s1 : 64 ≤ size) (s2 : size ≤ 1048576) (l0 : 0 < l) (l1 : l ≤ 1000000) (now : Int) (hy : ¬ jpC t base (held n) size ⟨3, now, ⟨(Digit.dec l).toArray⟩⟩ = 0) :
    Calls Tryz.prog 10 #[pb j, .int .i64 now] w (JPost w bs j b base n size (jpT t base (held n) size ⟨3, now, ⟨(Digit.dec l).toArray⟩⟩) r l false) := by
  have H := Lib.hid h
  have HM := Lib.hid (made_calls h.jb)
  have HY := Lib.hid hy
  have HD := Lib.hid fun W => Digit.put_calls l (by omega) (by omega) W
  have P0 := Lib.hid (Pt.start h.sto)
  obtain ⟨c0, c1, c2, c3, c4, c5⟩ := h.jb.cells
  clear h hy
  go_enter Tryz.func10, Tryz.ntmps10
  go_wp2_with fail
  refine HM.out.mono ?_
  rintro e w' ⟨rfl, rfl⟩
  go_wp2_with fail
  refine (HD.out _).mono ?_
  rintro e w1 ⟨rfl, hb1⟩
  obtain ⟨gb, hgb⟩ : ∃ gb : ByteArray, (⟨(Digit.dec l).toArray⟩ : ByteArray) = gb := ⟨_, rfl⟩
  rw [hgb] at HY ⊢
  have HGB := Lib.hid hgb
  have P1 := Lib.hid (P0.out.same hb1)
  clear hb1 P0 hgb
  have P2 := Lib.hid (P1.out.same ((Below.refl w1.heap.size w1).alloc (Nat.le_refl _) (.cells #[.int .i64 3, .int .i64 now, .string gb] 36 (0, 0))))
  have J2 := Lib.hid (H.out.pt P2.out)
  have HP := Lib.hid (jput_calls P2.out.sto J2.out.jb J2.out.far hb s1 s2 3 now gb)
  clear c0 c1 c2 c3 c4 c5
  obtain ⟨c0, c1, c2, c3, c4, c5⟩ := (H.out.pt P1.out).jb.cells
  go_wp2_with fail
  refine HP.out.mono ?_
  intro e w3 hd
  obtain ⟨k3, bs3, rfl, hd3⟩ := er_of HY.out hd
  have P3 := Lib.hid (P2.out.go hd3.2.2.1 hd3.2.2.2.1 hd3.2.2.2.2)
  clear hd3
  have J3 := Lib.hid (H.out.pt P3.out)
  have j3 := J3.out.jb.box
  have f4 := at_frozen j3 4
  have f5 := at_frozen j3 5
  have lt := at_lt j3
  have d4 : w3.cell? ⟨j, 4, none⟩ = some (.bool r) := at_cell j3 4
  have d5 : w3.cell? ⟨j, 5, none⟩ = some (.int .i64 l) := at_cell j3 5
  clear j3 c0 c1 c2 c3 c4 c5 hd
  go_wp2_with fail
  go_ret
  rw [HGB.out]
  exact P3.out.ends1 J3.out (Out.refl _ _)
end Go.Proofs.YtpaeemkdjgbejaaGreat.Jrn
end


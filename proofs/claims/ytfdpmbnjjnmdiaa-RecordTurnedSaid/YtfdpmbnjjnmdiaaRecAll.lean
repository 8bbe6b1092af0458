/-
  Layer 8 (record): All, walked.
-/
import Derived.Test.YtfdpmbnjjnmdiaaRecPut
import Derived.Test.YtfdpmbnjjnmdiaaRecScan
namespace Go.Proofs.Ytfdpmbnjjnmdiaa.Rec
open Go.RowKit Go.Proofs.Ytfdpmbnjjnmdiaa.Sum Go.Proofs.Ytfdpmbnjjnmdiaa.Own

/-- a slice that holds items -/
structure Its (w : World) (xs : List Itm) (p : Option Addr) (c : Nat) : Prop where
  cap : xs.length ≤ c
  max : c ≤ maxLen
  cells : xs = [] ∨ ∃ b o, p = some ⟨b, o, none⟩ ∧ b < w.heap.size ∧ ∀ i (hi : i < xs.length), w.cell? ⟨b, o + i * 3, none⟩ = some (.int .i64 xs[i].k) ∧ w.cell? ⟨b, o + i * 3 + 1, none⟩ = some (.int .i64 xs[i].a) ∧ w.cell? ⟨b, o + i * 3 + 2, none⟩ = some (.string xs[i].b)
theorem Its.kept {w w' : World} {xs : List Itm} {p : Option Addr} {c : Nat} (h : Its w xs p c) (hb : Below w.heap.size w w') : Its w' xs p c :=
  ⟨h.cap, h.max, h.cells.imp id fun ⟨b, o, e, hl, k⟩ => ⟨b, o, e, Nat.lt_of_lt_of_le hl hb.size, fun i hi => ⟨(hb.cell (p := ⟨b, _, none⟩) hl).trans (k i hi).1, (hb.cell (p := ⟨b, _, none⟩) hl).trans (k i hi).2.1, (hb.cell (p := ⟨b, _, none⟩) hl).trans (k i hi).2.2⟩⟩⟩
theorem owns_its {w : World} {B : Nat} {p : Option Addr} {n c : Nat} {xs : List Itm} (h : w.ownsRow B 23 3 (.slice p n c) n (cv xs)) (hn : n = xs.length) : Its w xs p c := by
  subst hn
  have hc := @World.ownsRow.cells _ _ _ _ _ _ _ h
  rcases h.2 with ⟨e, h0⟩ | ⟨g, cap, cur, e, _, hh, h3, h4, _⟩
  · simp only [Value.slice.injEq] at e
    obtain ⟨rfl, _, rfl⟩ := e
    exact ⟨by omega, by unfold maxLen; omega, .inl (List.eq_nil_of_length_eq_zero h0)⟩
  · simp only [Value.slice.injEq] at e
    obtain ⟨rfl, _, rfl⟩ := e
    refine ⟨h3, h4, .inr ⟨g, 0, rfl, at_lt hh, fun i hi => ?_⟩⟩
    obtain ⟨e1, e2, e3⟩ := cv_get hi
    have r1 := hc (g := g) rfl _ _ e1
    have r2 := hc (g := g) rfl _ _ e2
    have r3 := hc (g := g) rfl _ _ e3
    rw [add0] at r1 r2 r3
    rw [Nat.zero_add]
    exact ⟨r1, r2, r3⟩

theorem allC_at {xs : List Itm} {k : Nat} (hk : k < xs.length) (h : ∀ j (hj : j < xs.length), j < k → chk xs[j] = 0) (hc : chk xs[k] ≠ 0) : allC xs = chk xs[k] := by
  induction xs generalizing k with
  | nil => simp at hk
  | cons x l ih =>
    cases k with
    | zero =>
      have hc' : chk x ≠ 0 := hc
      show (if chk x = 0 then _ else _) = chk x
      rw [if_neg hc']
    | succ k =>
      have h0 : chk x = 0 := h 0 (by simp) (by omega)
      show (if chk x = 0 then _ else _) = _
      rw [if_pos h0]
      exact ih (by simpa using hk) (fun j hj hlt => h (j + 1) (by simpa using hj) (by omega)) hc
theorem allC_all {xs : List Itm} (h : ∀ j (hj : j < xs.length), j < xs.length → chk xs[j] = 0) : allC xs = 0 := allC_ok fun x hx => by
  obtain ⟨j, hj, rfl⟩ := List.getElem_of_mem hx
  exact h j hj hj
theorem tot_small {xs : List Itm} (k : Nat) (h : ∀ j (hj : j < xs.length), j < k → chk xs[j] = 0) : tot (xs.take k) ≤ k * 4110 := by
  refine Nat.le_trans (tot_le fun x hx => ?_) (Nat.mul_le_mul_right _ (List.length_take_le _ _))
  obtain ⟨j, hj, rfl⟩ := List.getElem_of_mem hx
  rw [List.length_take] at hj
  rw [List.getElem_take]
  exact (chk_ok.1 (h j (by omega) (by omega))).2.2.2.2

def AllPost (xs : List Itm) (w : World) (e : Ending) (w' : World) : Prop :=
  e = .returned (.tuple #[.string ⟨(allV xs).toArray⟩, .int .i64 (allC xs)]) ∧ Below w.heap.size w w'
theorem all_none {xs : List Itm} {w w' : World} {c : Int} (h : allC xs = c) (hc : c ≠ 0) (hb : Below w.heap.size w w') : AllPost xs w (.returned (.tuple #[.string ⟨#[]⟩, .int .i64 c])) w' :=
  ⟨by unfold allV; rw [h, if_neg hc], hb⟩
theorem all_some {xs : List Itm} {w w' : World} (h : allC xs = 0) (hb : Below w.heap.size w w') : AllPost xs w (.returned (.tuple #[.string ⟨(flat xs).toArray⟩, .int .i64 0])) w' :=
  ⟨by unfold allV; rw [h, if_pos rfl], hb⟩

theorem cut3 (g N p m : Nat) (hm : 0 < m) (h : p + m ≤ N) (W : World) :
    (Instr.sliceAt 42 (.slice (some ⟨g, 0, none⟩) N N) (some (.int .i64 (p : Int))) (some (.int .i64 (p : Int))) (some (.int .i64 ((p : Int) + (m : Int))))).run Try.prog W = .ok (.slice (some ⟨g, p, none⟩) 0 m) W := by
  have ht : Try.prog.underlying 42 = some (.slice (Try.prog.elem 42)) := by kernel_rfl
  have he : Try.prog.elem 42 = 5 := by kernel_rfl
  obtain ⟨i0, hi, hz0, hz1, hz2⟩ := info_parts info_byte
  rw [run_sliceAt_slice W _ _ _ _ _ ht, run_slice_lhm W _ _ _ _ ht .i64 .i64 .i64 _ _ _ (by omega) (by omega) (by omega) (by omega), he]
  have e1 : ((p : Int) + (m : Int)).toNat = p + m := by omega
  have hs : (sizeOf 5).run Try.prog W = .ok 1 W := by simp [sizeOf, typeInfo, hi, hz1]
  rw [hs]
  simp only [Result.andThen, sliced, e1, Int.toNat_natCast, if_neg (show ¬ p + m = p by omega)]
  simp [add_at]

/-- the first so many items' bytes are put -/
structure AllAt (g : Nat) (xs : List Itm) (k : Nat) (w wr : World) : Prop where
  row : wr.heap[g]? = some (.cells (splice (bv (List.replicate (tot xs) 0)) 0 (bv (flat (xs.take k)))).toArray 5 (0, 0))
  below : Below w.heap.size w wr

set_option maxRecDepth 100000 in
set_option maxHeartbeats 2000000 in
theorem all_calls (xs : List Itm) (p : Option Addr) (c : Nat) (w : World) (h : Its w xs p c) (hn : xs.length ≤ 1000000) :
    Calls Try.prog 18 #[.slice p xs.length c] w (AllPost xs w) := by
  have hcap := h.cap
  have hmax := h.max
  unfold maxLen at hmax
  have q2 : (xs.length : Int) ≤ 1000000 := by omega
  have HI := Lib.hid h
  clear h
  go_enter Try.func18, Try.ntmps18
  go_wp2_with fail
  go_loopw [4, 15] (fun z i wr => ∃ k : Nat, k ≤ xs.length ∧ i = .int .i64 k ∧ z = .int .i64 ((tot (xs.take k) : Nat) : Int) ∧ Hid (∀ j (hj : j < xs.length), j < k → chk xs[j] = 0) ∧ Below w.heap.size w wr) (fun _ i _ => xs.length - (intOf i).toNat)
  case atStart => exact ⟨0, by omega, rfl, rfl, Lib.hid (fun j hj h => absurd h (by omega)), Below.refl _ _⟩
  case round =>
    obtain ⟨k, hk, rfl, rfl, HK, hB⟩ := hrel
    have ht := tot_small k HK.out
    rcases Nat.lt_or_eq_of_le hk with hlt | rfl
    · rcases HI.out.cells with h0 | ⟨b, o, rfl, hb, hc⟩
      · rw [h0] at hlt; simp at hlt
      · obtain ⟨c0, c1, c2⟩ := hc k hlt
        rw [← hB.cell (p := ⟨b, _, none⟩) hb] at c0 c1 c2
        have q1 : (k : Int) < (xs.length : Int) := by omega
        have HT := Lib.hid (tot_take hlt)
        obtain ⟨kk, aa, bb, hx⟩ : ∃ kk aa bb, xs[k] = ⟨kk, aa, bb⟩ := ⟨_, _, _, rfl⟩
        have HX := Lib.hid hx
        rw [hx] at c0 c1 c2
        change wr.cell? _ = some (.int .i64 kk) at c0; change wr.cell? _ = some (.int .i64 aa) at c1; change wr.cell? _ = some (.string bb) at c2
        clear hc hx
        generalize tot (xs.take k) = t at *
        have t0 : (t : Int) ≤ 5000000000 := by omega
        go_wp2_with fail
        refine (check_calls kk aa bb _).mono ?_
        rintro e w5 ⟨rfl, hb5⟩
        have hq : w5.heap[wr.heap.size]? = some (.cells #[.int .i64 kk, .int .i64 aa, .string bb] 23 (0, 0)) := by
          rw [hb5.block wr.heap.size (by simp)]; exact at_new _ _
        have hsz := hB.size
        replace hB : Below w.heap.size w w5 := (hB.alloc hsz _).trans (hb5.mono (by simp; omega))
        clear hb5
        obtain ⟨d0, d1, d2⟩ := box3 hq
        have hl5 := at_lt hq
        clear hq c0 c1 c2
        by_cases hz : chk ⟨kk, aa, bb⟩ = 0
        · rw [hz]
          have hbb : bb.size ≤ 4096 := (chk_ok.1 hz).2.2.2.2
          have HZ := Lib.hid hz
          clear hz
          go_wp2_with fail
          refine (len_calls kk aa bb (by omega) _).mono ?_
          rintro e w6 ⟨rfl, hb6⟩
          replace hB := hB.trans (hb6.mono (by omega))
          clear hb6 d0 d1 d2
          go_wp2_with fail
          go_roundw
          case rel => exact ⟨k + 1, by omega, by go_num, by rw [HT.out, HX.out]; show _ = Value.int .i64 ((t + (14 + bb.size) : Nat) : Int); go_num, Lib.hid (fun j hj hlt => by
            rcases Nat.lt_or_eq_of_le (Nat.le_of_lt_succ hlt) with h | rfl
            · exact HK.out j hj h
            · rw [HX.out]; exact HZ.out), hB⟩
          case measure => simp [intOf]; omega
        · have HC := Lib.hid (allC_at hlt HK.out (by rw [HX.out]; exact hz))
          rw [HX.out] at HC
          obtain ⟨cc, hcc⟩ : ∃ cc, chk ⟨kk, aa, bb⟩ = cc := ⟨_, rfl⟩
          rw [hcc] at hz HC ⊢
          have b3 : (cc != 0) = true := by simpa using hz
          clear hcc d0 d1 d2
          go_wp2_with fail
          go_ret2
          exact all_none HC.out hz hB
    · rw [List.take_length] at ht ⊢
      have HC := Lib.hid (allC_all HK.out)
      have hsz := hB.size
      have hmk := fun W => make_bytes W ((tot xs : Nat) : Int) (tot xs) rfl (by omega)
      have hR : (bv (List.replicate (tot xs) 0)).length = tot xs := by rw [bv_len, List.length_replicate]
      have HR := Lib.hid hR
      clear hR
      go_wp2_with fail
      have A0 : AllAt wr.heap.size xs 0 w (wr.alloc (.cells (bv (List.replicate (tot xs) 0)).toArray 5)) :=
        ⟨by rw [show flat (xs.take 0) = [] from rfl, show bv [] = [] from rfl, splice_nil]; exact at_new _ _, hB.alloc hsz _⟩
      generalize wr.alloc (.cells (bv (List.replicate (tot xs) 0)).toArray 5) = w1 at *
      generalize wr.heap.size = g at *
      have hg : w.heap.size ≤ g := hsz
      clear hmk hB
      go_loopw [9, 33] (fun z i w2 => ∃ k : Nat, k ≤ xs.length ∧ i = .int .i64 k ∧ z = .int .i64 ((tot (xs.take k) : Nat) : Int) ∧ AllAt g xs k w w2) (fun _ i _ => xs.length - (intOf i).toNat)
      case atStart => exact ⟨0, by omega, rfl, rfl, A0⟩
      case round =>
        obtain ⟨k, hk, rfl, rfl, C⟩ := hrel
        have hle := tot_take_le xs k
        rcases Nat.lt_or_eq_of_le hk with hlt | rfl
        · rcases HI.out.cells with h0 | ⟨b, o, rfl, hb, hc⟩
          · rw [h0] at hlt; simp at hlt
          · obtain ⟨c0, c1, c2⟩ := hc k hlt
            rw [← C.below.cell (p := ⟨b, _, none⟩) hb] at c0 c1 c2
            have q1 : (k : Int) < (xs.length : Int) := by omega
            have hle2 := tot_take_le xs (k + 1)
            have hT := tot_take hlt
            have hz := HK.out k hlt hlt
            obtain ⟨kk, aa, bb, hx⟩ : ∃ kk aa bb, xs[k] = ⟨kk, aa, bb⟩ := ⟨_, _, _, rfl⟩
            have HX := Lib.hid hx
            rw [hx] at c0 c1 c2 hT hz
            have HT := Lib.hid hT
            change wr.cell? _ = some (.int .i64 kk) at c0; change wr.cell? _ = some (.int .i64 aa) at c1; change wr.cell? _ = some (.string bb) at c2
            change tot (xs.take (k + 1)) = tot (xs.take k) + (14 + bb.size) at hT
            rw [hT] at hle2
            have hbb : bb.size ≤ 4096 := (chk_ok.1 hz).2.2.2.2
            have HZ := Lib.hid hz
            clear hc hx hT hz
            obtain ⟨t, ht'⟩ : ∃ t, tot (xs.take k) = t := ⟨_, rfl⟩
            rw [ht'] at hle hle2 ⊢
            have HT' := Lib.hid ht'
            clear ht'
            have t0 : (t : Int) ≤ 5000000000 := by omega
            have hcut := cut3 g (tot xs) t (14 + bb.size) (by omega) (by omega)
            have e1 : (((14 + bb.size : Nat) : Nat) : Int) = 14 + (bb.size : Int) := by omega
            rw [e1] at hcut
            have kw : IntKind.i64.wrap ((t : Int) + (14 + (bb.size : Int))) = (t : Int) + (14 + (bb.size : Int)) := IntWalk.i64_in _ (by omega)
            clear e1
            go_wp2_with fail
            have hrow := C.row
            have hBW := C.below
            have hgl := at_lt hrow
            have hnb : wr.heap.size ≠ g := by omega
            replace hrow := at_old wr (.cells #[.int .i64 kk, .int .i64 aa, .string bb] 23 (0, 0)) hrow
            have hbox := at_new wr (.cells #[.int .i64 kk, .int .i64 aa, .string bb] 23 (0, 0))
            replace hBW := hBW.alloc hBW.size (.cells #[.int .i64 kk, .int .i64 aa, .string bb] 23 (0, 0))
            clear c0 c1 c2 C
            generalize wr.alloc (.cells #[.int .i64 kk, .int .i64 aa, .string bb] 23 (0, 0)) = W at *
            generalize wr.heap.size = bx at *
            obtain ⟨x0, x1, x2⟩ := box3 hbox
            have lx := at_lt hbox
            have lg := at_lt hrow
            have HRow := Lib.hid hrow
            have HBW := Lib.hid hBW
            clear hbox hrow hBW
            go_cut [12] (fun s12 wx => s12 = .slice (some ⟨g, t, none⟩) (0 + (bytesOf ⟨kk, aa, bb⟩).length) (14 + bb.size) ∧ AllAt g xs (k + 1) w wx)
            case first =>
              go_region_held3 (fun w' => w'.cell? ⟨bx, 0, none⟩ = some (.int .i64 kk) ∧ w'.cell? ⟨bx, 1, none⟩ = some (.int .i64 aa) ∧ w'.cell? ⟨bx, 2, none⟩ = some (.string bb))
                (first
                  | go_keep
                  | exact ⟨(hb5.cell (p := ⟨bx, 0, none⟩) lx).trans x0, (hb5.cell (p := ⟨bx, 1, none⟩) lx).trans x1, (hb5.cell (p := ⟨bx, 2, none⟩) lx).trans x2⟩
                  | exact ⟨(ho6.cell (p := ⟨bx, 0, none⟩) (Nat.lt_of_lt_of_le lx hb5.size) hnb).trans ((hb5.cell (p := ⟨bx, 0, none⟩) lx).trans x0), (ho6.cell (p := ⟨bx, 1, none⟩) (Nat.lt_of_lt_of_le lx hb5.size) hnb).trans ((hb5.cell (p := ⟨bx, 1, none⟩) lx).trans x1), (ho6.cell (p := ⟨bx, 2, none⟩) (Nat.lt_of_lt_of_le lx hb5.size) hnb).trans ((hb5.cell (p := ⟨bx, 2, none⟩) lx).trans x2)⟩)
                (first
                  | (go_at_call 11; refine (len_calls kk aa bb (by omega) _).mono ?_; rintro e w5 ⟨rfl, hb5⟩)
                  | (go_at_call 27; refine (item_calls _ g t (14 + bb.size) _ kk aa bb HZ.out ((hb5.block g lg).trans HRow.out) (Nat.le_refl _) (by rw [sp_len (by rw [flat_len, HT'.out, HR.out]; omega), HR.out]; omega)).mono ?_; rintro e w6 ⟨rfl, h6, ho6⟩))
              all_goals
                go_wp2_with fail
                go_meet
                refine ⟨by rw [Nat.zero_add], ⟨?_, ?_⟩⟩
                · rw [h6]
                  have e := sp (cur := bv (List.replicate (tot xs) 0)) (o := 0) (p := t) (l := flat (xs.take k)) (m := bytesOf ⟨kk, aa, bb⟩) (r := flat (xs.take (k + 1))) (by rw [flat_len, HT'.out]) (by rw [List.take_add_one, List.getElem?_eq_getElem hlt, HX.out, flat_app]; simp [flat]) (by rw [HR.out]; omega)
                  rw [Nat.zero_add] at e
                  rw [← e]; rfl
                · exact (HBW.out.drew.trans (hb5.mono HBW.out.size)).trans (ho6.below (Nat.le_trans HBW.out.size (show W.heap.size ≤ w5.heap.size from hb5.size)) (fun i e => by rw [e]; exact hg))
            case rest =>
              obtain ⟨rfl, C⟩ := hcut
              have e2 : (bytesOf ⟨kk, aa, bb⟩).length = 14 + bb.size := bytes_len _
              rw [e2]
              have HC2 := Lib.hid C
              clear C e2 x0 x1 x2 hcut
              go_wp2_with fail
              go_roundw
              case rel => exact ⟨k + 1, by omega, by go_num, by rw [HT.out, HT'.out]; show _ = Value.int .i64 ((t + (14 + bb.size) : Nat) : Int); go_num, HC2.out⟩
              case measure => simp [intOf]; omega
        · have hrow := C.row
          rw [List.take_length] at hrow
          have hF : (flat xs).length = tot xs := flat_len xs
          rw [splice_whole _ _ (by rw [bv_len, hF, HR.out])] at hrow
          have hcv := text_of (n := tot xs) (cap := tot xs) (o := 0) hrow hF (fun j hj => by rw [Nat.zero_add])
          have HB := Lib.hid C.below
          clear hrow C hF
          go_wp2_with fail
          go_ret2
          exact all_some HC.out HB.out
end Go.Proofs.Ytfdpmbnjjnmdiaa.Rec

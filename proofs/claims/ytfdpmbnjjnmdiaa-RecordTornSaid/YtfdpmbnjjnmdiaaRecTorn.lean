/-
  Layer 8 (record): the walk of RecordTorn.
-/
import Derived.Test.YtfdpmbnjjnmdiaaRecFew
namespace Go.Proofs.Ytfdpmbnjjnmdiaa.Rec
open Go.RowKit Go.Proofs.Ytfdpmbnjjnmdiaa.Sum Go.Proofs.Ytfdpmbnjjnmdiaa.Own

theorem Its.take {w : World} {xs : List Itm} {p : Option Addr} {c : Nat} (h : Its w xs p c) (k : Nat) : Its w (xs.take k) p c := by
  refine ⟨Nat.le_trans (List.length_take_le' _ _) h.cap, h.max, ?_⟩
  rcases h.cells with rfl | ⟨b, o, e, hb, hc⟩
  · exact .inl (by simp)
  · refine .inr ⟨b, o, e, hb, fun i hi => ?_⟩
    have hi' : i < xs.length := by rw [List.length_take] at hi; omega
    have := hc i hi'
    rw [List.getElem_take]
    exact this
theorem cut_items (p : Option Addr) (xs : List Itm) (c k : Nat) (hk : k ≤ xs.length) (hc : xs.length ≤ c) (W : World) :
    (Instr.sliceAt 33 (.slice p xs.length c) none (some (.int .i64 (k : Int))) none).run Try.prog W = .ok (.slice p (xs.take k).length c) W := by
  have ht : Try.prog.underlying 33 = some (.slice (Try.prog.elem 33)) := by kernel_rfl
  have he : Try.prog.elem 33 = 23 := by kernel_rfl
  obtain ⟨i0, hi, hz0, hz1, hz2⟩ := info_parts info_item
  rw [run_sliceAt_slice W _ _ _ _ _ ht, run_slice_h W _ _ _ _ ht .i64 _ (by omega) (by omega), he]
  have hs : (sizeOf 23).run Try.prog W = .ok 3 W := by simp [sizeOf, typeInfo, hi, hz1]
  rw [hs]
  simp only [Result.andThen, sliced, Int.toNat_natCast]
  have e1 : (xs.take k).length = k := by rw [List.length_take]; omega
  rw [e1]
  cases p with
  | none => simp
  | some a => obtain ⟨b, o, sp⟩ := a; simp [Addr.add]

theorem rsame_at {xs : List Itm} {n : Nat} (hn : xs.length = n) (p q : Option Addr) (c d : Nat) (w : World) (h1 : Its w xs p c) (h2 : Its w xs q d) :
    Calls Try.prog 16 #[.slice p n c, .slice q n d] w fun e w' => e = .returned (.bool true) ∧ Below w.heap.size w w' := by
  subst hn; exact rsame_calls xs p q c d w h1 h2
/-- behind the scan: what is there, what came back -/
structure TornAt (w wr : World) (xs ys : List Itm) (p q : Option Addr) (c d : Nat) : Prop where
  its : Its wr xs p c
  back : Its wr ys q d
  below : Below w.heap.size w wr
theorem TornAt.kept {w wr w' : World} {xs ys : List Itm} {p q : Option Addr} {c d : Nat} (h : TornAt w wr xs ys p q c d) (hb : Below wr.heap.size wr w') : TornAt w w' xs ys p q c d :=
  ⟨h.its.kept hb, h.back.kept hb, h.below.trans (hb.mono h.below.size)⟩

set_option maxRecDepth 100000 in
set_option maxHeartbeats 4000000 in
theorem torn_walk (xs0 : List Itm) (p0 : Option Addr) (c0 : Nat) (n : Int) (n0 : 0 ≤ n) (n1 : n < 65536) (w : World) (h : Its w xs0 p0 c0) :
    Calls Try.prog 5 #[.slice p0 xs0.length c0, .int .u16 n] w fun e w' => e = .returned (.bool true) ∧ Below w.heap.size w w' := by
  have HF := Lib.hid (few_calls xs0 p0 c0 w h)
  clear h
  go_enter Try.func5, Try.ntmps5
  go_wp2_with fail
  refine HF.out.mono ?_
  rintro e w1 ⟨xs, p, c, rfl, hI, hok, h12, hb⟩
  have HI := Lib.hid hI
  have HB := Lib.hid hb
  have HA := Lib.hid (all_calls xs p c w1 hI (by omega))
  have hC := allC_ok fun x hx => (hok x hx).1
  have hV : allV xs = flat xs := if_pos hC
  have ht := tot_le fun x hx => Nat.le_trans (hok x hx).2 (show 200 ≤ 4096 by omega)
  have hcap := hI.cap
  have hmax := hI.max
  unfold maxLen at hmax
  have HK := Lib.hid hok
  clear hI hb hok
  go_wp2_with fail
  refine HA.out.mono ?_
  rintro e w2 ⟨rfl, hb⟩
  rw [hC, hV]
  have HI2 := Lib.hid (HI.out.kept hb)
  have HB2 := Lib.hid (HB.out.trans (hb.mono HB.out.size))
  clear hb hC hV HA HF HI HB
  obtain ⟨S, hS⟩ : ∃ S : ByteArray, S = ⟨(flat xs).toArray⟩ := ⟨_, rfl⟩
  have hl : S.data.toList = flat xs := by rw [hS]
  have hsz : S.size = tot xs := by rw [← size_list, hl, flat_len]
  rw [← hS]
  have hs1 : (0 : Int) < (S.size : Int) + 1 := by omega
  have hs2 : (S.size : Int) + 1 ≤ 100000 := by omega
  obtain ⟨j, hj⟩ : ∃ j : Nat, n % ((S.size : Int) + 1) = j := ⟨(n % ((S.size : Int) + 1)).toNat, by have := Int.emod_nonneg n (b := (S.size : Int) + 1) (by omega); omega⟩
  have hjl : j ≤ S.size := by have := Int.emod_lt_of_pos n hs1; omega
  have hcut : ∀ W, (Instr.sliceAt 9 (.string S) none (some (.int .i64 (j : Int))) none).run Try.prog W = .ok (.string (S.extract 0 (j : Int).toNat)) W := fun W => cut_to 9 Try.underlying9 S _ (by omega) (by omega) W
  obtain ⟨T, hT⟩ : ∃ T : ByteArray, T = S.extract 0 (j : Int).toNat := ⟨_, rfl⟩
  rw [← hT] at hcut
  have hTl : T.data.toList = (flat xs).take j := by rw [hT, extract_list, hl, List.drop_zero, show (j : Int).toNat = j by omega]
  have hTs : T.size ≤ 1099511627776 := by rw [← size_list, hTl]; have := List.length_take_le j (flat xs); rw [List.length_take]; omega
  obtain ⟨f, hf⟩ : ∃ f, fitn xs j = f := ⟨_, rfl⟩
  have hfl : f ≤ xs.length := by rw [← hf]; exact fitn_le _ _
  have HS : Hid (∀ W, Calls Try.prog 14 #[.string T] W (ScanIts (xs.take f) ((tot (xs.take f) : Nat) : Int) W)) := Lib.hid fun W => (scan_calls T hTs W).mono fun e w' h => scan_its h (by rw [hTl, scan_torn (fun x hx => (HK.out x hx).1) j, hf])
  have HN : Hid (∀ k (hk : k < xs.length), k ≤ f → (14 + xs[k].b.size + tot (xs.take k) ≤ j ↔ k < f)) := Lib.hid fun k hk hkf => by
    rw [← hf] at hkf ⊢; exact fitn_next xs j k hk hkf
  have HJ := Lib.hid hj
  have HZ := Lib.hid hsz
  clear hj hS hl hsz hT hTl hTs hf
  have hj1 : n % ((S.size : Int) + 1) = j := HJ.out
  go_wp2_with fail
  refine (HS.out _).mono ?_
  rintro e w3 ⟨q, d, rfl, hJ, hb⟩
  have HT := Lib.hid (show TornAt w w3 xs (xs.take f) p q c d from ⟨HI2.out.kept hb, hJ, HB2.out.trans (hb.mono HB2.out.size)⟩)
  clear hb hJ HI2 HB2 hcut hj1 HS
  go_wp2_with fail
  rw [HJ.out]
  go_loopw [10, 11] (fun z i wr => ∃ k : Nat, k ≤ f ∧ i = .int .i64 k ∧ z = .int .i64 ((tot (xs.take k) : Nat) : Int) ∧ TornAt w wr xs (xs.take f) p q c d) (fun _ i _ => xs.length - (intOf i).toNat)
  case atStart => exact ⟨0, by omega, rfl, rfl, HT.out⟩
  case round =>
    clear HT
    obtain ⟨k, hk, rfl, rfl, C⟩ := hrel
    have hsl := cut_items p xs c f hfl hcap
    have tl := tot_take_le xs k
    have t0 : ((tot (xs.take k) : Nat) : Int) ≤ 100000 := by omega
    have j0 : (j : Int) ≤ 100000 := by omega
    by_cases hlt : k < xs.length
    · rcases C.its.cells with h0 | ⟨b, o, rfl, hb, hc⟩
      · rw [h0] at hlt; simp at hlt
      · obtain ⟨c0, c1, c2⟩ := hc k hlt
        have q1 : (k : Int) < (xs.length : Int) := by omega
        have hnx := HN.out k hlt hk
        have htk := tot_take hlt
        have hbb := (HK.out _ (List.getElem_mem hlt)).2
        obtain ⟨kk, aa, bb, hx⟩ : ∃ kk aa bb, xs[k] = ⟨kk, aa, bb⟩ := ⟨_, _, _, rfl⟩
        rw [hx] at c0 c1 c2 hnx htk hbb
        change wr.cell? _ = some (.int .i64 kk) at c0; change wr.cell? _ = some (.int .i64 aa) at c1; change wr.cell? _ = some (.string bb) at c2
        change 14 + bb.size + tot (xs.take k) ≤ j ↔ k < f at hnx
        change tot (xs.take (k + 1)) = tot (xs.take k) + (14 + bb.size) at htk
        change bb.size ≤ 200 at hbb
        have HTK := Lib.hid htk
        have HT := Lib.hid C
        obtain ⟨t, ht'⟩ : ∃ t, tot (xs.take k) = t := ⟨_, rfl⟩
        have HT' := Lib.hid ht'
        rw [ht'] at hnx tl t0 ⊢
        clear hc hx htk C ht'
        by_cases hkf : k < f
        · have hle := hnx.2 hkf
          have q3 : (14 : Int) + (bb.size : Int) ≤ (j : Int) - (t : Int) := by omega
          have q4 : decide ((14 : Int) + (bb.size : Int) ≤ (j : Int) - (t : Int)) = true := decide_eq_true q3
          clear hnx hle hsl
          go_wp2_with fail
          refine (len_calls kk aa bb (by omega) _).mono ?_
          rintro e w5 ⟨rfl, hb5⟩
          have d0 := (hb5.cell (p := ⟨b, o + k * 3, none⟩) hb).trans c0
          have d1 := (hb5.cell (p := ⟨b, o + k * 3 + 1, none⟩) hb).trans c1
          have d2 := (hb5.cell (p := ⟨b, o + k * 3 + 2, none⟩) hb).trans c2
          replace HT := Lib.hid (HT.out.kept hb5)
          clear hb5 c0 c1 c2
          go_wp2_with fail
          refine (len_calls kk aa bb (by omega) _).mono ?_
          rintro e w6 ⟨rfl, hb6⟩
          replace HT := Lib.hid (HT.out.kept hb6)
          clear hb6 d0 d1 d2
          go_wp2_with fail
          go_roundw
          case rel => exact ⟨k + 1, by omega, by go_num, by rw [HTK.out, HT'.out]; go_num, HT.out⟩
          case measure => simp [intOf]; omega
        · obtain rfl : k = f := by omega
          rw [HT'.out]
          have hle : ¬ 14 + bb.size + t ≤ j := fun h => hkf (hnx.1 h)
          have q3 : (j : Int) - (t : Int) < (14 : Int) + (bb.size : Int) := by omega
          have q4 : decide ((14 : Int) + (bb.size : Int) ≤ (j : Int) - (t : Int)) = false := decide_eq_false (by omega)
          clear hnx hle hkf
          go_wp2_with fail
          refine (len_calls kk aa bb (by omega) _).mono ?_
          rintro e w5 ⟨rfl, hb5⟩
          replace HT := Lib.hid (HT.out.kept hb5)
          clear hb5 c0 c1 c2
          go_wp2_with fail
          refine (rsame_at (xs := xs.take k) (by rw [List.length_take]; omega) q (some ⟨b, o, none⟩) d c _ HT.out.back (HT.out.its.take k)).mono ?_
          rintro e w6 ⟨rfl, hb⟩
          have HB := Lib.hid (HT.out.below.trans (hb.mono HT.out.below.size))
          clear hb
          go_wp2_with fail
          refine (works_calls _).mono ?_
          rintro e w7 ⟨rfl, hb⟩
          have HB2 := Lib.hid (HB.out.trans (hb.mono HB.out.size))
          clear hb
          go_wp2_with fail
          go_ret
          exact ⟨rfl, HB2.out⟩
    · obtain rfl : k = xs.length := by omega
      obtain rfl : f = xs.length := by omega
      rw [List.take_length] at C hsl tl t0 ⊢
      have HT := Lib.hid C
      clear C
      go_wp2_with fail
      refine (rsame_calls xs q p d c _ HT.out.back HT.out.its).mono ?_
      rintro e w6 ⟨rfl, hb⟩
      have HB := Lib.hid (HT.out.below.trans (hb.mono HT.out.below.size))
      clear hb
      go_wp2_with fail
      refine (works_calls _).mono ?_
      rintro e w7 ⟨rfl, hb⟩
      have HB2 := Lib.hid (HB.out.trans (hb.mono HB.out.size))
      clear hb
      go_wp2_with fail
      go_ret
      exact ⟨rfl, HB2.out⟩

end Go.Proofs.Ytfdpmbnjjnmdiaa.Rec

/-
  Layer 11 (store): Crash.
-/
import Derived.Test.YtejhggjehmioaaaDoorStoCrash
import Derived.Test.YtejhggjehmioaaaDoorStoSyn
namespace Go.Proofs.YtejhggjehmioaaaDoor.Sto
open Go.RowKit Go.Proofs.YtejhggjehmioaaaDoor.Own Go.Proofs.YtejhggjehmioaaaDoor.KM Go.Proofs.YtejhggjehmioaaaDoor.Flt
open Go.Proofs.YtejhggjehmioaaaDoor.Rw (str strs Row1)

/-- numbers that came in, or were laid -/
def iv (ks : List Int) : List Value := ks.map fun k => .int .i64 k
structure Keep (w : World) (bs : Nat → Prop) (p : Option Addr) (c : Nat) (ks : List Int) : Prop where
  row : Row1 w p c (iv ks)
  rng : ∀ k ∈ ks, -9223372036854775808 ≤ k ∧ k ≤ 9223372036854775807
  far : ks = [] ∨ ∀ g o, p = some ⟨g, o, none⟩ → ¬ bs g
theorem getD_rng {ks : List Int} (h : ∀ k ∈ ks, -9223372036854775808 ≤ k ∧ k ≤ 9223372036854775807) (i : Nat) : -9223372036854775808 ≤ ks.getD i 0 ∧ ks.getD i 0 ≤ 9223372036854775807 := by
  by_cases hi : i < ks.length
  · rw [List.getD, List.getElem?_eq_getElem hi]; exact h _ (List.getElem_mem hi)
  · rw [List.getD, List.getElem?_eq_none (by omega)]; simp
theorem Keep.cell {w : World} {bs : Nat → Prop} {p : Option Addr} {c : Nat} {ks : List Int} (h : Keep w bs p c ks) {i : Nat} (hi : i < ks.length) : ∃ g o, p = some ⟨g, o, none⟩ ∧ ¬ bs g ∧ g < w.heap.size ∧ w.cell? ⟨g, o + i, none⟩ = some (.int .i64 (ks.getD i 0)) := by
  rcases h.row.cells with h0 | ⟨g, o, e, hl, hc⟩
  · have : ks = [] := by simpa [iv] using h0
    rw [this] at hi; simp at hi
  · have hf : ¬ bs g := by
      rcases h.far with h0 | h0
      · rw [h0] at hi; simp at hi
      · exact h0 g o e
    exact ⟨g, o, e, hf, hl, hc i _ (by simp [iv, List.getD, List.getElem?_eq_getElem hi])⟩
theorem Keep.out {w w' : World} {bs : Nat → Prop} {p : Option Addr} {c : Nat} {ks : List Int} (h : Keep w bs p c ks) (ho : Out bs w w') : Keep w' bs p c ks := by
  refine ⟨⟨h.row.cap, h.row.max, ?_⟩, h.rng, h.far⟩
  rcases h.far with h0 | h0
  · exact .inl (by rw [h0]; rfl)
  · exact h.row.cells.imp id fun ⟨g, o, e, hl, hc⟩ => ⟨g, o, e, Nat.lt_of_lt_of_le hl ho.size, fun i x hx => (ho.cell (p := ⟨g, o + i, none⟩) hl (h0 g o e)).trans (hc i x hx)⟩

section
variable {w : World} {bs : Nat → Prop} {b m : Nat} {V : List En} {most total bad : Int}
theorem cr_step {wo W w4 : World} {bs : Nat → Prop} {b m : Nat} {Vi : List En} {most total bad : Int} {L : List Fl} {ks : List Int} {k M : Nat} {kk : Int} {p1 p' : Option Addr} {n1 c1 c' : Nat} {a : Bs} (h : Base wo bs b m Vi most total bad)
    (hkV : k < Vi.length) (hkL : k < L.length) (hx : Vi[k].fl = L[k]) (hsl : Vi[k].sl = .slice p1 n1 c1) (ha : a = L[k].nm) (_ : ks.getD k 0 = kk) (hM : cutN L[k] kk = M) (_ : L[k].sure ≤ L[k].bs.length) (_ : L[k].bs.length ≤ 16777216)
    (hb : Below wo.heap.size wo W) (hm : KMap Tryd.prog 9 str w4 m (put (look Vi) a (.agg #[.slice p' M c', .int .i64 M])) (if (look Vi a).isSome then Vi.length else Vi.length + 1)) (ho : Out (fun k => k = m) W w4)
    (R2 : Bt wo (.slice p' M c') (cutF L[k] kk).bs) (e2 : (Value.slice p' M c').ownBlock = (Value.slice p1 n1 c1).ownBlock) : Base w4 bs b m (Vi.set k ⟨cutF L[k] kk, .slice p' M c'⟩) most total bad := by
  have hxV : Vi[k] ∈ Vi := List.getElem_mem hkV
  have hn : enm ⟨cutF L[k] kk, .slice p' M c'⟩ = enm Vi[k] := by show L[k].nm = Vi[k].fl.nm; rw [hx]
  rw [← pt_set h.rise hkV hn]
  have h2 := h.below hb
  have hv : En.val ⟨cutF L[k] kk, .slice p' M c'⟩ = .agg #[.slice p' M c', .int .i64 M] := by rw [← hM]; rfl
  refine h2.put_ _ rfl (fun _ _ _ _ _ => rfl) ?_ ho (R2.kept fun g hg => hb.block g (R2.lt hg)) (fun y hy hne => ?_) fun g hg => ?_
  · rw [hv, show enm ⟨cutF L[k] kk, .slice p' M c'⟩ = a from ha.symm]; exact hm
  · have := apart_mem h.apart hxV hy (fun e => hne (by rw [← e]; exact hn.symm))
    intro g hg
    rw [e2, ← hsl] at hg
    exact this g hg
  · rw [e2, ← hsl] at hg
    exact h.mine _ hxV g hg
set_option maxRecDepth 100000 in
set_option maxHeartbeats 8000000 in
theorem crash_calls (h : Base w bs b m V most total bad) (hall : ∀ k, bs k → k < w.heap.size) {L : List Fl} (hVL : V.map En.fl = L) (hnm : ∀ x ∈ L, isNm x.nm = true) (hs : ∀ x ∈ L, x.sure ≤ x.bs.length) (ht : tot L ≤ 16777216) (hV : V.length ≤ 1000000)
    {p : Option Addr} {c : Nat} {ks : List Int} (hk : Keep w bs p c ks) :
    Calls Tryd.prog 12 #[.pointer (some ⟨b, 0, none⟩), .slice p ks.length c] w fun e w' => e = .returned (.tuple #[]) ∧ ∃ V', V'.map En.fl = crsL L ks ∧ Leaves w bs w' b m V' most (tot (crsL L ks) : Nat) 0 := by
  have c0 := (at_cell h.box 0 : _ = some _)
  have c2 := (at_cell h.box 2 : _ = some _)
  have c3 := (at_cell h.box 3 : _ = some _)
  have f2 := at_frozen h.box 2
  have f3 := at_frozen h.box 3
  have hbb := h.bb
  have B1 := Lib.hid ((h.total_ 0).bad_ 0)
  have O1 : Hid (Out bs w ((w.setCell ⟨b, 2, none⟩ (.int .i64 0)).setCell ⟨b, 3, none⟩ (.int .i64 0))) := Lib.hid (((Out.refl bs w).setCell (p := ⟨b, 2, none⟩) (fun _ => hbb) _).setCell (p := ⟨b, 3, none⟩) (fun _ => hbb) _)
  have hA := Lib.hid hall
  have hK := Lib.hid hk
  have hSR := Lib.hid hs
  have hNMS := Lib.hid hnm
  have hVL' := Lib.hid hVL
  have hb' := Lib.hid hbb
  obtain ⟨N, hN⟩ : ∃ N, V.length = N := ⟨_, rfl⟩
  have hLn : L.length = N := by rw [← hVL, List.length_map, hN]
  have hLN := Lib.hid hLn
  obtain ⟨K, hKK⟩ : ∃ K, ks.length = K := ⟨_, rfl⟩
  have hKl := Lib.hid hKK
  have hNM := Lib.hid (names_calls B1.out hV)
  rw [hN] at hNM hV
  rw [hKK]
  have hcap := hk.row.cap
  have hmax := hk.row.max
  simp only [iv, List.length_map, hKK] at hcap
  have hrise := Lib.hid h.rise
  clear h hall hVL hs hnm hN hKK hLn hk hbb
  go_enter Tryd.func12, Tryd.ntmps12
  go_wp2_with (first
    | (go_at_call 27; refine (made_some _ _ _ c0).mono ?_; rintro e w' ⟨rfl, rfl⟩)
    | (go_at_call 15; refine hNM.out.mono ?_; rintro e w1 ⟨v1, rfl, hr1, hb1⟩; obtain ⟨pv, cv, rfl, hT⟩ := Rw.owns_row hr1 (by have := hr1.1; omega); replace hr1 := Lib.hid hr1; replace hb1 := Lib.hid hb1; replace hT := Lib.hid hT))
  have hsz := O1.out.size
  have hnm : Hid (∀ i (hi : i < L.length), ∃ g, pv = some ⟨g, 0, none⟩ ∧ ¬ bs g ∧ g < w1.heap.size ∧ w1.cell? ⟨g, i, none⟩ = some (str L[i].nm)) := by
    refine Lib.hid fun i hi => ?_
    have hiN : i < N := by rw [← hLN.out]; exact hi
    obtain ⟨g, c', e, hg1, hg2, _, _⟩ := Rw.own_shape hr1.out (by omega)
    cases e
    refine ⟨g, rfl, fun hb => by have := hA.out g hb; omega, hg2, ?_⟩
    refine Rw.own_cell hr1.out rfl ?_
    have hiV : i < V.length := by have := congrArg List.length hVL'.out; rw [List.length_map] at this; omega
    have e2 : V[i].fl = L[i] := by
      have : (V.map En.fl)[i]'(by simpa using hiV) = L[i] := by simp only [hVL'.out]
      simpa using this
    rw [Rw.strs_at (by simpa using hiV)]
    simp only [List.getElem_map]
    rw [show enm V[i] = L[i].nm from congrArg Fl.nm e2]
  have O2 : Hid (Out bs w w1) := Lib.hid (O1.out.trans (Out.ofNew (S := bs) hb1.out) fun _ _ h => h)
  have hK1 : Hid (Keep w1 bs p c ks) := Lib.hid (hK.out.out O2.out)
  have hA1 : Hid (∀ k, bs k → k < w1.heap.size) := Lib.hid fun k hk => Nat.lt_of_lt_of_le (hA.out k hk) O2.out.size
  have C0 : Hid (CrAt w1 w1 bs b m L ks most 0) := Lib.hid ⟨⟨V, by rw [List.take_zero, List.drop_zero, List.nil_append]; exact hVL'.out, by rw [List.take_zero]; exact B1.out.below hb1.out⟩, Out.refl _ _⟩
  have hRng := Lib.hid fun i => getD_rng hK.out.rng i
  clear c0 c2 c3 f2 f3 B1 O1 hK hr1 hb1 hT hNM hsz hVL' hA hrise
  go_loopw [4, 5, 6, 7, 20] (fun _ _ _ _ i wr => ∃ k : Nat, k ≤ N ∧ i = .int .i64 k ∧ CrAt w1 wr bs b m L ks most k) (fun _ _ _ _ i _ => N - (intOf i).toNat)
  case atStart => exact ⟨0, Nat.zero_le _, rfl, C0.out⟩
  case round =>
    rename World => wo
    obtain ⟨k, hk, rfl, C⟩ := hrel
    by_cases hlt : k < N
    · have hkL : k < L.length := by rw [hLN.out]; exact hlt
      obtain ⟨g, rfl, hgb, hgl, hgc⟩ := hnm.out k hkL
      obtain ⟨⟨Vi, hVi, Bi⟩, Oi⟩ := C
      obtain ⟨hkV, hxk⟩ := cr_at hVi hkL
      have d0 := (Oi.cell (p := ⟨g, k, none⟩) hgl hgb).trans hgc
      obtain ⟨nm, hnmE⟩ : ∃ s : ByteArray, s = ⟨(L[k].nm).toArray⟩ := ⟨_, rfl⟩
      have hnmL : nm.data.toList = L[k].nm := by rw [hnmE]
      rw [str, ← hnmE] at d0
      have c0 := (at_cell Bi.box 0 : _ = some _)
      have hxV : Vi[k] ∈ Vi := List.getElem_mem hkV
      have hlkx : lk enm Vi nm.data.toList = some Vi[k] := Bi.rise.lk.2 ⟨hxV, by rw [hnmL, ← hxk]⟩
      have hgot := gotE_some hlkx
      have hname : nm.size ≤ maxLen := name_max (by rw [hnmL]; exact hNMS.out _ (List.getElem_mem hkL))
      have hlk := Bi.look_ nm hname
      rw [hgot] at hlk
      have hBt := Bi.rows Vi[k] hxV
      obtain ⟨p1, n1, c1, hsl⟩ := hBt.form
      obtain ⟨S, hS⟩ : ∃ S, Vi[k].fl.sure = S := ⟨_, rfl⟩
      rw [En.val, hsl, hS] at hlk
      have hmem := hSR.out L[k] (List.getElem_mem hkL)
      have hlen : L[k].bs.length ≤ 16777216 := Nat.le_trans (len_tot (List.getElem_mem hkL)) ht
      obtain ⟨kk, hkk⟩ : ∃ kk, ks.getD k 0 = kk := ⟨_, rfl⟩
      obtain ⟨r1, r2⟩ := hRng.out k
      rw [hkk] at r1 r2
      have hCut := fun W (hb : Below wo.heap.size wo W) => cut_calls (w := W) (sl := .slice p1 n1 c1) (x := L[k]) (by rw [← hsl, ← hxk]; exact hBt.kept fun g hg => hb.block g (hBt.lt hg)) hmem hlen kk r1 r2
      rw [show L[k].sure = S by rw [← hxk]; exact hS] at hCut
      have HB := Lib.hid Bi
      have HC := Lib.hid hCut
      have HV := Lib.hid (show Vi.map En.fl = (crsL L ks).take k ++ L.drop k from hVi)
      have HX := Lib.hid (show Vi[k].fl = L[k] ∧ Vi[k].sl = .slice p1 n1 c1 ∧ nm.data.toList = L[k].nm ∧ ks.getD k 0 = kk from ⟨hxk, hsl, hnmL, hkk⟩)
      have HO := Lib.hid Oi
      have HS := Lib.hid hmem
      have q1 : (k : Int) < (N : Int) := by omega
      clear hgc hVi Bi Oi hlkx hgot hBt hsl hS hmem hCut hnmE hnmL hxk hxV
      by_cases hkK : k < K
      · obtain ⟨gk, ok, rfl, hk1, hk2, hk3⟩ := hK1.out.cell (i := k) (by rw [hKl.out]; exact hkK)
        rw [hkk] at hk3
        have e0 := (HO.out.cell (p := ⟨gk, ok + k, none⟩) hk2 hk1).trans hk3
        have q2 : (k : Int) < (K : Int) := by omega
        have q3 : (K : Int) ≤ (c : Int) := by omega
        clear hk1 hk2 hk3 hkk
        go_wp2_with (go_at_call 30; refine (HC.out _ (Below.refl _ _)).mono ?_; rintro e w2 ⟨p', c', rfl, R2, e2, hb2⟩; replace R2 := Lib.hid R2; replace e2 := Lib.hid e2; replace hb2 := Lib.hid hb2)
        obtain ⟨W, hW⟩ : ∃ W, w2.alloc (.cells #[.slice p' (cutN L[k] kk) c', .int .i64 (cutN L[k] kk)] 67 (0, 0)) = W := ⟨_, rfl⟩
        have N3 : W.heap[w2.heap.size]? = some (.cells #[.slice p' (cutN L[k] kk) c', .int .i64 (cutN L[k] kk)] 67 (0, 0)) := by rw [← hW]; exact at_new _ _
        have b3 : Hid (Below wo.heap.size wo W) := Lib.hid (by rw [← hW]; exact hb2.out.alloc hb2.out.size _)
        have s3 : Hid (wo.heap.size ≤ w2.heap.size ∧ w2.heap.size < W.heap.size) := Lib.hid (by rw [← hW]; exact ⟨hb2.out.size, by simp⟩)
        rw [hW]
        obtain ⟨M, hM⟩ : ∃ M, cutN L[k] kk = M := ⟨_, rfl⟩
        rw [hM] at N3 R2 e2 ⊢
        have HM := Lib.hid hM
        have B3 := Lib.hid (HB.out.below b3.out)
        clear hW c0 hlk d0 hM e0 q3
        have n0 := (at_cell N3 0 : _ = some _)
        have n1 := (at_cell N3 1 : _ = some _)
        have c0 := (at_cell B3.out.box 0 : _ = some _)
        go_still_tail 6, (by kernel_rfl)
        change wpList _ _ _ _ _ W.drew
        refine wp_store rfl _ _ _ _ rfl _ _ keyed Tryd.underlying59 m _ _ rfl (B3.out.map.kept (w' := W.drew) rfl) nm.data.toList rfl (.agg #[.slice p' M c', .int .i64 M]) rfl (str_key hname) (str_inj _) ?_
        intro w4 K4 O4
        have O4' : Hid (Out (fun k => k = m) W w4) := Lib.hid O4.ofDrew
        have B4 := Lib.hid (cr_step HB.out hkV hkL HX.out.1 HX.out.2.1 HX.out.2.2.1 HX.out.2.2.2 HM.out HS.out hlen b3.out K4 O4'.out R2.out e2.out)
        have N4 := O4'.out.at_ N3 (fun e => by have := HB.out.lt.2; have := s3.out.1; omega)
        clear n0 n1 c0 K4 O4 N3
        have n0 := (at_cell N4 0 : _ = some _)
        have t2 := (at_cell B4.out.box 2 : _ = some _)
        have tf := at_frozen B4.out.box 2
        have hT1 : 0 ≤ (tot ((crsL L ks).take k) : Int) ∧ (tot ((crsL L ks).take k) : Int) ≤ 16777216 := ⟨by omega, by have := tot_take (crsL L ks) k; have := tot_cut hSR.out ks; omega⟩
        have hM2 : (M : Int) ≤ 16777216 := by have := (cutN_le HS.out kk).2; rw [HM.out] at this; omega
        obtain ⟨T, hT⟩ : ∃ T : Int, (tot ((crsL L ks).take k) : Int) = T := ⟨_, rfl⟩
        rw [hT] at t2 hT1
        obtain ⟨hT1, hT2⟩ := hT1
        have HT := Lib.hid hT
        clear hT N4
        go_wp2_with fail
        go_still_tail 10, (by kernel_rfl)
        change wpList _ _ _ _ _ w4.drew
        go_wp2_with fail
        go_roundw
        case rel =>
          refine ⟨k + 1, by omega, by go_num, ⟨_, cr_next HV.out hkL ⟨cutF L[k] kk, .slice p' M c'⟩ (by rw [HX.out.2.2.2]), ?_⟩, ?_⟩
          · have := B4.out.total_ (T + M)
            rw [tot_next hkL, HX.out.2.2.2]
            have e : ((tot ((crsL L ks).take k) + (cutF L[k] kk).bs.length : Nat) : Int) = T + M := by
              have h1 := (cutN_le HS.out kk).2
              rw [← HT.out, ← HM.out]
              simp only [cutF, List.length_take]
              omega
            rw [e]
            exact this.kept fun _ _ _ => rfl
          · have o1 := (HO.out.trans (Out.ofNew (S := bs) b3.out) fun _ _ h => h).trans O4'.out fun i _ hi => by subst hi; exact HB.out.bm
            have o2 := o1.setCell (p := ⟨b, 2, none⟩) (fun _ => hb'.out) (.int .i64 (T + M))
            exact ⟨o2.os, o2.tape, o2.output, o2.size, o2.block⟩
        case measure => simp [intOf]; omega
      · have q2 : (K : Int) ≤ (k : Int) := by omega
        obtain rfl : kk = 0 := by rw [← hkk, List.getD, List.getElem?_eq_none (by rw [hKl.out]; omega)]; rfl
        clear hkk
        go_wp2_with (go_at_call 30; refine (HC.out _ (Below.refl _ _)).mono ?_; rintro e w2 ⟨p', c', rfl, R2, e2, hb2⟩; replace R2 := Lib.hid R2; replace e2 := Lib.hid e2; replace hb2 := Lib.hid hb2)
        obtain ⟨W, hW⟩ : ∃ W, w2.alloc (.cells #[.slice p' (cutN L[k] 0) c', .int .i64 (cutN L[k] 0)] 67 (0, 0)) = W := ⟨_, rfl⟩
        have N3 : W.heap[w2.heap.size]? = some (.cells #[.slice p' (cutN L[k] 0) c', .int .i64 (cutN L[k] 0)] 67 (0, 0)) := by rw [← hW]; exact at_new _ _
        have b3 : Hid (Below wo.heap.size wo W) := Lib.hid (by rw [← hW]; exact hb2.out.alloc hb2.out.size _)
        have s3 : Hid (wo.heap.size ≤ w2.heap.size ∧ w2.heap.size < W.heap.size) := Lib.hid (by rw [← hW]; exact ⟨hb2.out.size, by simp⟩)
        rw [hW]
        obtain ⟨M, hM⟩ : ∃ M, cutN L[k] 0 = M := ⟨_, rfl⟩
        rw [hM] at N3 R2 e2 ⊢
        have HM := Lib.hid hM
        have B3 := Lib.hid (HB.out.below b3.out)
        clear hW c0 hlk d0 hM 
        have n0 := (at_cell N3 0 : _ = some _)
        have n1 := (at_cell N3 1 : _ = some _)
        have c0 := (at_cell B3.out.box 0 : _ = some _)
        go_still_tail 6, (by kernel_rfl)
        change wpList _ _ _ _ _ W.drew
        refine wp_store rfl _ _ _ _ rfl _ _ keyed Tryd.underlying59 m _ _ rfl (B3.out.map.kept (w' := W.drew) rfl) nm.data.toList rfl (.agg #[.slice p' M c', .int .i64 M]) rfl (str_key hname) (str_inj _) ?_
        intro w4 K4 O4
        have O4' : Hid (Out (fun k => k = m) W w4) := Lib.hid O4.ofDrew
        have B4 := Lib.hid (cr_step HB.out hkV hkL HX.out.1 HX.out.2.1 HX.out.2.2.1 HX.out.2.2.2 HM.out HS.out hlen b3.out K4 O4'.out R2.out e2.out)
        have N4 := O4'.out.at_ N3 (fun e => by have := HB.out.lt.2; have := s3.out.1; omega)
        clear n0 n1 c0 K4 O4 N3
        have n0 := (at_cell N4 0 : _ = some _)
        have t2 := (at_cell B4.out.box 2 : _ = some _)
        have tf := at_frozen B4.out.box 2
        have hT1 : 0 ≤ (tot ((crsL L ks).take k) : Int) ∧ (tot ((crsL L ks).take k) : Int) ≤ 16777216 := ⟨by omega, by have := tot_take (crsL L ks) k; have := tot_cut hSR.out ks; omega⟩
        have hM2 : (M : Int) ≤ 16777216 := by have := (cutN_le HS.out 0).2; rw [HM.out] at this; omega
        obtain ⟨T, hT⟩ : ∃ T : Int, (tot ((crsL L ks).take k) : Int) = T := ⟨_, rfl⟩
        rw [hT] at t2 hT1
        obtain ⟨hT1, hT2⟩ := hT1
        have HT := Lib.hid hT
        clear hT N4
        go_wp2_with fail
        go_still_tail 10, (by kernel_rfl)
        change wpList _ _ _ _ _ w4.drew
        go_wp2_with fail
        go_roundw
        case rel =>
          refine ⟨k + 1, by omega, by go_num, ⟨_, cr_next HV.out hkL ⟨cutF L[k] 0, .slice p' M c'⟩ (by rw [HX.out.2.2.2]), ?_⟩, ?_⟩
          · have := B4.out.total_ (T + M)
            rw [tot_next hkL, HX.out.2.2.2]
            have e : ((tot ((crsL L ks).take k) + (cutF L[k] 0).bs.length : Nat) : Int) = T + M := by
              have h1 := (cutN_le HS.out 0).2
              rw [← HT.out, ← HM.out]
              simp only [cutF, List.length_take]
              omega
            rw [e]
            exact this.kept fun _ _ _ => rfl
          · have o1 := (HO.out.trans (Out.ofNew (S := bs) b3.out) fun _ _ h => h).trans O4'.out fun i _ hi => by subst hi; exact HB.out.bm
            have o2 := o1.setCell (p := ⟨b, 2, none⟩) (fun _ => hb'.out) (.int .i64 (T + M))
            exact ⟨o2.os, o2.tape, o2.output, o2.size, o2.block⟩
        case measure => simp [intOf]; omega
    · obtain rfl : k = N := by omega
      have q1 : ¬ (k : Int) < (k : Int) := by omega
      have HC := Lib.hid C
      clear C
      go_wp2_with fail
      go_end0
      obtain ⟨⟨Vi, hVi, Bi⟩, Oi⟩ := HC.out
      have e1 : (crsL L ks).take k = crsL L ks := List.take_of_length_le (by rw [crs_len, hLN.out]; omega)
      rw [e1] at hVi Bi
      rw [List.drop_eq_nil_of_le (by rw [hLN.out]; omega), List.append_nil] at hVi
      exact ⟨rfl, Vi, hVi, bs, Bi, O2.out.trans Oi fun _ _ h => h, fun _ h => .inl h, fun i hi => Nat.lt_of_lt_of_le (hA1.out i hi) Oi.size⟩
end
end Go.Proofs.YtejhggjehmioaaaDoor.Sto

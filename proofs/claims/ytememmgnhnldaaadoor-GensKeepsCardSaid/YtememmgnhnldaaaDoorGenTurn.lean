/-
  Layer 21 (gens): Turn. Written by gen_genturn.py.
-/
import Derived.Test.YtememmgnhnldaaaDoorGenLow
import Derived.Deep.Slices
namespace Go.Proofs.YtememmgnhnldaaaDoor.Gen
open Go.RowKit Go.Proofs.YtememmgnhnldaaaDoor.Own Go.Proofs.YtememmgnhnldaaaDoor.Sto
open Go.Proofs.YtememmgnhnldaaaDoor.Rw (str strs Row1 Texts own_shape texts_own strs_app one_new)
open Go.Proofs.YtememmgnhnldaaaDoor.Tree (own_slice own_out out_grown own_lt)

theorem tx_out {S : Nat → Prop} {w w' : World} {g c : Nat} {ts : List Bs} (h : Texts w (some ⟨g, 0, none⟩) c ts) (ho : Out S w w') (hp : ¬ S g) : Texts w' (some ⟨g, 0, none⟩) c ts :=
  ⟨h.row.cap, h.row.max, h.row.cells.imp id fun ⟨b, o, e, hl, k⟩ => ⟨b, o, e, Nat.lt_of_lt_of_le hl ho.size, fun i x hx => (ho.cell (p := ⟨b, o + i, none⟩) hl (by cases e; exact hp)).trans (k i x hx)⟩⟩
/-- a store while it is turned; the names lie beside it -/
structure TnAt (w : World) (bs : Nat → Prop) (g c : Nat) (ns : List Bs) (W : World) (bs1 : Nat → Prop) (b : Nat) (t : St) : Prop where
  sto : Sto W bs1 b t
  out : Out bs w W
  new : ∀ i, bs1 i → bs i ∨ w.heap.size ≤ i
  far : ¬ bs1 g
  lt : g < W.heap.size
  tx : Texts W (some ⟨g, 0, none⟩) c ns
section
variable {w W W' : World} {bs bs1 : Nat → Prop} {g c b : Nat} {ns : List Bs} {t t' : St} {e : Ending} {C : Int}
theorem TnAt.same (h : TnAt w bs g c ns W bs1 b t) (hb : Below W.heap.size W W') : TnAt w bs g c ns W' bs1 b t :=
  ⟨h.sto.below hb, h.out.trans (Out.ofNew (S := fun _ => False) hb) (fun _ _ h => h.elim), h.new, h.far, Nat.lt_of_lt_of_le h.lt hb.size, h.tx.below hb⟩
theorem TnAt.ends (h : TnAt w bs g c ns W bs1 b t) (hd : DoesE W bs1 e W' b t' C) : DoesE w bs e W' b t' C := by
  obtain ⟨v, k, bs2, he, hE, hk, hs, ho, hn⟩ := hd
  have hsz := h.out.size
  refine ⟨v, k, bs2, he, hE, fun hc => ⟨Nat.le_trans hsz (hk hc).1, (hk hc).2⟩, hs, h.out.trans ho fun i hi hb => ?_, fun i hi => ?_⟩
  · rcases h.new i hb with h1 | h1
    · exact h1
    · omega
  · rcases hn i hi with h1 | h1
    · exact h.new i h1
    · exact .inr (by omega)
theorem TnAt.done (h : TnAt w bs g c ns W bs1 b t) : DoesE w bs (.returned .nilIface) W b t 0 :=
  ⟨_, 0, bs1, rfl, .inl ⟨rfl, rfl⟩, fun h => absurd rfl h, h.sto, h.out, h.new⟩
theorem TnAt.ok (h : TnAt w bs g c ns W bs1 b t) (hd : DoesE W bs1 e W' b t' 0) : e = .returned .nilIface ∧ ∃ bs2, TnAt w bs g c ns W' bs2 b t' := by
  obtain ⟨v, k, bs2, he, hE, -, hs, ho, hn⟩ := hd
  rcases hE with ⟨_, rfl⟩ | ⟨hc, _⟩
  · have hsz := h.out.size
    refine ⟨he, bs2, hs, h.out.trans ho fun i hi hb => ?_, fun i hi => ?_, fun hg => ?_, Nat.lt_of_lt_of_le h.lt ho.size, tx_out h.tx ho h.far⟩
    · rcases h.new i hb with h1 | h1
      · exact h1
      · omega
    · rcases hn i hi with h1 | h1
      · exact h.new i h1
      · exact .inr (by omega)
    · rcases hn g hg with h1 | h1
      · exact h.far h1
      · have := h.lt; omega
  · exact absurd rfl hc
theorem TnAt.cell (h : TnAt w bs g c ns W bs1 b t) {i : Nat} (hi : i < ns.length) : W.cell? ⟨g, i, none⟩ = some (str ns[i]) := by
  rcases h.tx.cells with h0 | ⟨b, o, e, _, hc⟩
  · rw [h0] at hi; simp at hi
  · cases e
    have := hc i hi
    rwa [Nat.zero_add] at this
theorem does_err (hc : C ≠ 0) (hd : DoesE W bs1 e W' b t' C) : ∃ k, e = .returned (.iface 110 (.pointer (some ⟨k, 0, none⟩))) := by
  obtain ⟨v, k, bs2, he, hE, -, hs, ho, hn⟩ := hd
  rcases hE with ⟨h0, _⟩ | ⟨_, rfl, hh⟩
  · exact absurd h0 hc
  · exact ⟨k, he⟩
end
/-- names behind the first -/
structure Tail (g n c : Nat) (p : Option Addr) (r c2 : Nat) : Prop where
  run : ∀ W, (Instr.sliceAt 29 (.slice (some ⟨g, 0, none⟩) n c) (some (.int .i64 1)) none none).run Tryd.prog W = .ok (.slice p r c2) W
  some_ : 0 < r → p = some ⟨g, 1, none⟩
  cap : r ≤ c2 ∧ c2 ≤ 9223372036854775807
theorem tail_of (g n c r : Nat) (hn : n = r + 1) (hc : n ≤ c) (hm : c ≤ maxLen) : ∃ p c2, Tail g n c p r c2 := by
  have hel : Tryd.prog.elem 29 = 9 := by simp [Program.elem, Tryd.underlying29]
  have ht : Tryd.prog.underlying 29 = some (.slice (Tryd.prog.elem 29)) := by rw [hel]; exact Tryd.underlying29
  have r2 : ∀ (W : World), (Instr.sliceAt 29 (.slice (some ⟨g, 0, none⟩) n c) (some (.int .i64 1)) none none).run Tryd.prog W = .ok (sliced (some ⟨g, 0, none⟩) 1 n c 1) W := by
    intro W
    rw [run_sliceAt_slice W _ _ _ _ _ ht, run_slice_l W _ _ _ _ ht .i64 1 (by omega) (by omega), hel, Tryd.sizeOf9]; rfl
  unfold maxLen at hm
  refine ⟨some (if c = 1 then ⟨g, 0, none⟩ else ⟨g, 1, none⟩), c - 1, fun W => ?_, fun h => by rw [if_neg (by omega)], by omega, by omega⟩
  rw [r2 W]
  simp only [sliced, Option.map_some, show n - 1 = r by omega]
  split <;> simp [Addr.add]

set_option maxRecDepth 100000 in
set_option maxHeartbeats 8000000 in
theorem turn_calls {w : World} {bs : Nat → Prop} {b : Nat} {t : St} (h : Sto w bs b t) (base : Bs) (ha : base.length ≤ 1000000) (n : Int) :
    Calls Tryd.prog 10 #[pb b, .string ⟨base.toArray⟩, .int .i64 n] w fun e w' => DoesE w bs e w' b (trT t (ser base (held n))) (trC t (ser base (held n))) := by
  have H := Lib.hid h
  have HS := Lib.hid (series_calls base n ha)
  have hL0 := ser_len base (held n)
  have HZ := Lib.hid fun x (hx : x ∈ ser base (held n)) => ser_size (held_bd n).2 hx
  have hK := held_bd n
  generalize ser base (held n) = ns at *
  generalize held n = K at *
  obtain ⟨r, rfl⟩ : ∃ r, K = r + 1 := ⟨K - 1, by omega⟩
  have hr : r ≤ 15 := by omega
  have HL := Lib.hid hL0
  obtain ⟨T, hT⟩ : ∃ T, trT t ns = T := ⟨_, rfl⟩
  obtain ⟨C, hC⟩ : ∃ C, trC t ns = C := ⟨_, rfl⟩
  rw [hT, hC]
  have HT := Lib.hid hT
  have HC := Lib.hid hC
  clear h hL0 hK hT hC
  go_enter Tryd.func10, Tryd.ntmps10
  go_wp2_with fail
  refine (HS.out _).mono ?_
  rintro e w1 ⟨g, c, k, rfl, hk, hg, hg2, hTx, hb⟩
  obtain rfl : k = r + 1 := hk.trans HL.out
  have A1 := Lib.hid (show TnAt w bs g c ns w1 bs b t from ⟨H.out.below hb, Out.ofNew hb, fun i hi => .inl hi, fun hi => by have := H.out.all g hi; omega, hg2, hTx⟩)
  have hcap := hTx.cap
  rw [HL.out] at hcap
  obtain ⟨p2, c2, HTL⟩ := tail_of g (r + 1) c r rfl hcap.1 hcap.2
  have hsl := HTL.run
  have hc2 := HTL.cap
  obtain ⟨hcap1, hcap2⟩ := hcap
  obtain ⟨hc2a, hc2b⟩ := hc2
  unfold maxLen at hcap2
  replace HTL := Lib.hid HTL
  clear hk hg hg2 hTx hb
  obtain ⟨a, rs, hns⟩ : ∃ a rs, ns = a :: rs := by
    have := HL.out
    cases ns with
    | nil => cases this
    | cons a rs => exact ⟨a, rs, rfl⟩
  have c0 : w1.cell? ⟨g, 0, none⟩ = some (str a) := by
    have := A1.out.cell (i := 0) (by rw [HL.out]; omega)
    simpa [hns] using this
  have hz0 := HZ.out a (by rw [hns]; simp)
  have HNS := Lib.hid (show ns = a :: ns.drop 1 from by rw [hns]; rfl)
  have HNG := Lib.hid (show ns.getD 0 [] = a from by rw [hns]; rfl)
  clear hns
  rw [str] at c0
  have HTH := Lib.hid (there_calls A1.out.sto a (by omega))
  clear hz0
  cases hs : (flk t.L a).isSome with
  | false =>
    have HX := Lib.hid (show rnT t (ns.getD 0 []) (ns.drop 1) = T ∧ rnC t (ns.getD 0 []) (ns.drop 1) = C from by
      rw [HNG.out]
      obtain ⟨e1, e2⟩ := tr_skip (r := ns.drop 1) hs
      rw [← e1, ← e2, ← HNS.out]; exact ⟨HT.out, HC.out⟩)
    rw [hs] at HTH
    clear hs
    go_wp2_with fail
    refine HTH.out.mono ?_
    rintro e w2 ⟨rfl, hb⟩
    have A2 := Lib.hid (A1.out.same hb)
    clear hb c0
    go_wp2_with fail
    go_loopw [31] (fun i wr => ∃ (k : Nat) (t' : St) (bs' : Nat → Prop), k ≤ r ∧ i = .int .i64 k ∧ TnAt w bs g c ns wr bs' b t' ∧ Hid (rnT t' (ns.getD k []) (ns.drop (k + 1)) = T ∧ rnC t' (ns.getD k []) (ns.drop (k + 1)) = C)) (fun i _ => r - (intOf i).toNat)
    case atStart => exact ⟨0, _, _, Nat.zero_le _, rfl, A2.out, HX⟩
    case round =>
      obtain ⟨k, t', bs', hk, rfl, hA, HR⟩ := hrel
      rename World => wr
      have A := Lib.hid hA
      clear hA A2 HX
      rcases Nat.lt_or_eq_of_le hk with hlt | ek
      · have q1 : (k : Int) < (r : Int) := by omega
        obtain rfl := HTL.out.some_ (by omega)
        have hl0 : k < ns.length := by rw [HL.out]; omega
        have hl1 : k + 1 < ns.length := by rw [HL.out]; omega
        have d0 := A.out.cell hl0
        have d1 := A.out.cell hl1
        have HG0 := Lib.hid (show ns.getD k [] = ns[k] from by simp [List.getD, hl0])
        have HG1 := Lib.hid (show ns.getD (k + 1) [] = ns[k + 1] from by simp [List.getD, hl1])
        have HDR := Lib.hid (show ns.drop (k + 1) = ns[k + 1] :: ns.drop (k + 1 + 1) from List.drop_eq_getElem_cons hl1)
        have hz1 := HZ.out _ (List.getElem_mem hl1)
        rw [str] at d0 d1
        rw [HG0.out, HDR.out] at HR
        generalize ns[k] = pv at *
        generalize ns[k + 1] = nx at *
        clear hl0 hl1
        rw [show k + 1 = 1 + k by omega] at d1
        have HTK := Lib.hid (there_calls A.out.sto nx (by omega))
        cases hs : (flk t'.L nx).isSome with
        | false =>
          have HX := Lib.hid (show rnT t' (ns.getD (k + 1) []) (ns.drop (k + 1 + 1)) = T ∧ rnC t' (ns.getD (k + 1) []) (ns.drop (k + 1 + 1)) = C from by
            rw [HG1.out]
            obtain ⟨e1, e2⟩ := rn_skip (p := pv) (r := ns.drop (k + 1 + 1)) hs
            rw [← e1, ← e2]; exact HR.out)
          rw [hs] at HTK
          clear hs HR hz1
          go_wp2_with fail
          refine HTK.out.mono ?_
          rintro e w5 ⟨rfl, hb⟩
          have A5 := Lib.hid (A.out.same hb)
          clear hb d0 d1
          go_wp2_with fail
          go_roundw
          case rel => exact ⟨k + 1, _, _, by omega, by go_num, A5.out, HX⟩
          case measure => simp [intOf]; omega
        | true =>
          rw [hs] at HTK
          go_wp2_with fail
          refine HTK.out.mono ?_
          rintro e w5 ⟨rfl, hb⟩
          have A5 := Lib.hid (A.out.same hb)
          have d2 := hb.cell (p := ⟨g, k, none⟩) A.out.lt
          rw [d0] at d2
          clear hb d0 d1
          have HRN := Lib.hid (sto_ren A5.out.sto ⟨nx.toArray⟩ ⟨pv.toArray⟩)
          rw [show (⟨nx.toArray⟩ : ByteArray).data.toList = nx from rfl, show (⟨pv.toArray⟩ : ByteArray).data.toList = pv from rfl] at HRN
          by_cases hc0 : renC t' nx pv = 0
          · have HX := Lib.hid (show rnT (renT t' nx pv) (ns.getD (k + 1) []) (ns.drop (k + 1 + 1)) = T ∧ rnC (renT t' nx pv) (ns.getD (k + 1) []) (ns.drop (k + 1 + 1)) = C from by
              rw [HG1.out]
              obtain ⟨e1, e2⟩ := rn_go (r := ns.drop (k + 1 + 1)) hs hc0
              rw [← e1, ← e2]; exact HR.out)
            rw [hc0] at HRN
            clear hs hc0 HR hz1
            go_wp2_with fail
            refine HRN.out.mono ?_
            rintro e w6 hd
            obtain ⟨rfl, bs6, hA6⟩ := A5.out.ok hd
            have A6 := Lib.hid hA6
            generalize renT t' nx pv = t6 at *
            clear hd hA6 d2
            go_wp2_with fail
            go_roundw
            case rel => exact ⟨k + 1, _, _, by omega, by go_num, A6.out, HX⟩
            case measure => simp [intOf]; omega
          · have HX := Lib.hid (show renT t' nx pv = T ∧ renC t' nx pv = C from by
              obtain ⟨e1, e2⟩ := rn_end (r := ns.drop (k + 1 + 1)) hs hc0
              rw [← e1, ← e2]; exact HR.out)
            have HC0 := Lib.hid hc0
            clear hs hc0 HR hz1
            go_wp2_with fail
            refine HRN.out.mono ?_
            rintro e w6 hd
            obtain ⟨kk, rfl⟩ := does_err HC0.out hd
            have HD := Lib.hid (A5.out.ends hd)
            rw [HX.out.1, HX.out.2] at HD
            clear hd d2
            go_wp2_with fail
            go_ret
            exact HD.out
      · obtain rfl := ek.symm
        have HD := Lib.hid (show DoesE w bs (.returned .nilIface) wr b T C from by
          have hdr : ns.drop (r + 1) = [] := List.drop_of_length_le (by rw [HL.out]; exact Nat.le_refl _)
          have hx := HR.out
          rw [hdr] at hx
          obtain ⟨e1, e2⟩ := hx
          rw [← e1, ← e2]
          exact A.out.done)
        go_wp2_with fail
        go_ret
        exact HD.out
  | true =>
    rw [hs] at HTH
    go_wp2_with fail
    refine HTH.out.mono ?_
    rintro e w2 ⟨rfl, hb⟩
    have A1' := Lib.hid (A1.out.same hb)
    have c1 := hb.cell (p := ⟨g, 0, none⟩) A1.out.lt
    rw [c0] at c1
    clear hb c0
    have HRM := Lib.hid (sto_rem A1'.out.sto ⟨a.toArray⟩)
    rw [show (⟨a.toArray⟩ : ByteArray).data.toList = a from rfl] at HRM
    by_cases hc0 : remC t a = 0
    · have HX := Lib.hid (show rnT (remT t a) (ns.getD 0 []) (ns.drop 1) = T ∧ rnC (remT t a) (ns.getD 0 []) (ns.drop 1) = C from by
        rw [HNG.out]
        obtain ⟨e1, e2⟩ := tr_go (r := ns.drop 1) hs hc0
        rw [← e1, ← e2, ← HNS.out]; exact ⟨HT.out, HC.out⟩)
      rw [hc0] at HRM
      clear hs hc0
      go_wp2_with fail
      refine HRM.out.mono ?_
      rintro e w3 hd
      obtain ⟨rfl, bs2, hA2⟩ := A1'.out.ok hd
      have A2 := Lib.hid hA2
      generalize remT t a = t2 at *
      clear hd hA2 c1
      go_wp2_with fail
      go_loopw [31] (fun i wr => ∃ (k : Nat) (t' : St) (bs' : Nat → Prop), k ≤ r ∧ i = .int .i64 k ∧ TnAt w bs g c ns wr bs' b t' ∧ Hid (rnT t' (ns.getD k []) (ns.drop (k + 1)) = T ∧ rnC t' (ns.getD k []) (ns.drop (k + 1)) = C)) (fun i _ => r - (intOf i).toNat)
      case atStart => exact ⟨0, _, _, Nat.zero_le _, rfl, A2.out, HX⟩
      case round =>
        obtain ⟨k, t', bs', hk, rfl, hA, HR⟩ := hrel
        rename World => wr
        have A := Lib.hid hA
        clear hA A2 HX
        rcases Nat.lt_or_eq_of_le hk with hlt | ek
        · have q1 : (k : Int) < (r : Int) := by omega
          obtain rfl := HTL.out.some_ (by omega)
          have hl0 : k < ns.length := by rw [HL.out]; omega
          have hl1 : k + 1 < ns.length := by rw [HL.out]; omega
          have d0 := A.out.cell hl0
          have d1 := A.out.cell hl1
          have HG0 := Lib.hid (show ns.getD k [] = ns[k] from by simp [List.getD, hl0])
          have HG1 := Lib.hid (show ns.getD (k + 1) [] = ns[k + 1] from by simp [List.getD, hl1])
          have HDR := Lib.hid (show ns.drop (k + 1) = ns[k + 1] :: ns.drop (k + 1 + 1) from List.drop_eq_getElem_cons hl1)
          have hz1 := HZ.out _ (List.getElem_mem hl1)
          rw [str] at d0 d1
          rw [HG0.out, HDR.out] at HR
          generalize ns[k] = pv at *
          generalize ns[k + 1] = nx at *
          clear hl0 hl1
          rw [show k + 1 = 1 + k by omega] at d1
          have HTK := Lib.hid (there_calls A.out.sto nx (by omega))
          cases hs : (flk t'.L nx).isSome with
          | false =>
            have HX := Lib.hid (show rnT t' (ns.getD (k + 1) []) (ns.drop (k + 1 + 1)) = T ∧ rnC t' (ns.getD (k + 1) []) (ns.drop (k + 1 + 1)) = C from by
              rw [HG1.out]
              obtain ⟨e1, e2⟩ := rn_skip (p := pv) (r := ns.drop (k + 1 + 1)) hs
              rw [← e1, ← e2]; exact HR.out)
            rw [hs] at HTK
            clear hs HR hz1
            go_wp2_with fail
            refine HTK.out.mono ?_
            rintro e w5 ⟨rfl, hb⟩
            have A5 := Lib.hid (A.out.same hb)
            clear hb d0 d1
            go_wp2_with fail
            go_roundw
            case rel => exact ⟨k + 1, _, _, by omega, by go_num, A5.out, HX⟩
            case measure => simp [intOf]; omega
          | true =>
            rw [hs] at HTK
            go_wp2_with fail
            refine HTK.out.mono ?_
            rintro e w5 ⟨rfl, hb⟩
            have A5 := Lib.hid (A.out.same hb)
            have d2 := hb.cell (p := ⟨g, k, none⟩) A.out.lt
            rw [d0] at d2
            clear hb d0 d1
            have HRN := Lib.hid (sto_ren A5.out.sto ⟨nx.toArray⟩ ⟨pv.toArray⟩)
            rw [show (⟨nx.toArray⟩ : ByteArray).data.toList = nx from rfl, show (⟨pv.toArray⟩ : ByteArray).data.toList = pv from rfl] at HRN
            by_cases hc0 : renC t' nx pv = 0
            · have HX := Lib.hid (show rnT (renT t' nx pv) (ns.getD (k + 1) []) (ns.drop (k + 1 + 1)) = T ∧ rnC (renT t' nx pv) (ns.getD (k + 1) []) (ns.drop (k + 1 + 1)) = C from by
                rw [HG1.out]
                obtain ⟨e1, e2⟩ := rn_go (r := ns.drop (k + 1 + 1)) hs hc0
                rw [← e1, ← e2]; exact HR.out)
              rw [hc0] at HRN
              clear hs hc0 HR hz1
              go_wp2_with fail
              refine HRN.out.mono ?_
              rintro e w6 hd
              obtain ⟨rfl, bs6, hA6⟩ := A5.out.ok hd
              have A6 := Lib.hid hA6
              generalize renT t' nx pv = t6 at *
              clear hd hA6 d2
              go_wp2_with fail
              go_roundw
              case rel => exact ⟨k + 1, _, _, by omega, by go_num, A6.out, HX⟩
              case measure => simp [intOf]; omega
            · have HX := Lib.hid (show renT t' nx pv = T ∧ renC t' nx pv = C from by
                obtain ⟨e1, e2⟩ := rn_end (r := ns.drop (k + 1 + 1)) hs hc0
                rw [← e1, ← e2]; exact HR.out)
              have HC0 := Lib.hid hc0
              clear hs hc0 HR hz1
              go_wp2_with fail
              refine HRN.out.mono ?_
              rintro e w6 hd
              obtain ⟨kk, rfl⟩ := does_err HC0.out hd
              have HD := Lib.hid (A5.out.ends hd)
              rw [HX.out.1, HX.out.2] at HD
              clear hd d2
              go_wp2_with fail
              go_ret
              exact HD.out
        · obtain rfl := ek.symm
          have HD := Lib.hid (show DoesE w bs (.returned .nilIface) wr b T C from by
            have hdr : ns.drop (r + 1) = [] := List.drop_of_length_le (by rw [HL.out]; exact Nat.le_refl _)
            have hx := HR.out
            rw [hdr] at hx
            obtain ⟨e1, e2⟩ := hx
            rw [← e1, ← e2]
            exact A.out.done)
          go_wp2_with fail
          go_ret
          exact HD.out
    · have HX := Lib.hid (show remT t a = T ∧ remC t a = C from by
        obtain ⟨e1, e2⟩ := tr_end (r := ns.drop 1) hs hc0
        rw [← e1, ← e2, ← HNS.out]; exact ⟨HT.out, HC.out⟩)
      have HC0 := Lib.hid hc0
      clear hs hc0
      go_wp2_with fail
      refine HRM.out.mono ?_
      rintro e w3 hd
      obtain ⟨kk, rfl⟩ := does_err HC0.out hd
      have HD := Lib.hid (A1'.out.ends hd)
      rw [HX.out.1, HX.out.2] at HD
      clear hd c1
      go_wp2_with fail
      go_ret
      exact HD.out
end Go.Proofs.YtememmgnhnldaaaDoor.Gen

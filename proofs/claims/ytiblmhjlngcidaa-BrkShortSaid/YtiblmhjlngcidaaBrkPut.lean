/-
  Layer 14 (brk): Put.
-/
import Derived.Test.YtiblmhjlngcidaaBrkBehind
import Derived.Test.YtiblmhjlngcidaaBrkText
import Derived.Deep.DeepCutAuto
namespace Go.Proofs.Ytiblmhjlngcidaa.Brk
open Go.RowKit Go.Proofs.Ytiblmhjlngcidaa.Digit Go.Proofs.Ytiblmhjlngcidaa.Own

def PPost (L : List Op) (w : World) (e : Ending) (w' : World) : Prop := e = .returned (.tuple #[.string ⟨(pV L).toArray⟩, .int .i64 (pC L)]) ∧ Below w.heap.size w w'
theorem put_bad {L : List Op} {w w' : World} {k : Nat} (hk : k < L.length) (h : ¬ okAt L k) (hb : Below w.heap.size w w') : PPost L w (.returned (.tuple #[.string ⟨#[]⟩, .int .i64 1])) w' := by
  obtain ⟨e1, e2⟩ := p_bad (l := L) fun g => h (g k hk)
  exact ⟨by rw [e1, e2], hb⟩
theorem put_big {L : List Op} {w w' : World} {t : List UInt8} (h : ∀ j, j < L.length → okAt L j) (hn : Near (txt L) t) (ht : 255 < t.length) (hb : Below w.heap.size w w') : PPost L w (.returned (.tuple #[.string ⟨#[]⟩, .int .i64 5])) w' := by
  obtain ⟨e1, e2⟩ := p_big (l := L) h (hn.not ht)
  exact ⟨by rw [e1, e2], hb⟩
theorem put_fit {L : List Op} {w w' : World} {t : List UInt8} (h : ∀ j, j < L.length → okAt L j) (hn : Near (txt L) t) (ht : ¬ 255 < t.length) (hb : Below w.heap.size w w') : PPost L w (.returned (.tuple #[.string ⟨t.toArray⟩, .int .i64 0])) w' := by
  have e := hn.fit ht
  obtain ⟨e1, e2⟩ := p_fit (l := L) h (by rw [e]; exact ht)
  exact ⟨by rw [e1, e2, e], hb⟩
theorem stepV_ok {x : Op} (h : Ok x) : stepV x = stV x := if_pos h.kd.symm
theorem stepB_no {x : Op} (h : ¬ Ok x) : stepB x = false := by
  cases e : stepB x
  · rfl
  · exact absurd ((stepB_iff x).1 e) h
theorem txt_next {L : List Op} {k : Nat} (h : k < L.length) : txt (L.take (k + 1)) = txt (L.take k) ++ tx L[k] := by
  rw [List.take_succ_eq_append_getElem h, txt_app, txt_one]

/-- the last of the steps that were told is to be one with the next -/
def bnd (L : List Op) (x : Op) : Nat → Bool
  | 0 => false
  | k + 1 => match L[k]? with | some y => isOne y x | none => false
theorem bnd_at {L : List Op} {x : Op} {k : Nat} (hk : L[k]? = some x) : okAt L k ↔ (Ok x ∧ bnd L x k = false) := by
  constructor
  · rintro ⟨z, e, ho, hp⟩
    have : z = x := Option.some.inj (e.symm.trans hk)
    subst this
    refine ⟨ho, ?_⟩
    cases k with
    | zero => rfl
    | succ k =>
      obtain ⟨y, e2, h2⟩ := hp (by omega)
      rw [Nat.add_sub_cancel] at e2
      simp only [bnd, e2]; exact h2
  · rintro ⟨ho, h⟩
    refine ⟨x, hk, ho, fun h0 => ?_⟩
    cases k with
    | zero => omega
    | succ k =>
      have hlt : k < L.length := by have := (List.getElem?_eq_some_iff.1 hk).1; omega
      refine ⟨L[k], by simp [hlt], ?_⟩
      simp only [bnd, List.getElem?_eq_getElem hlt] at h
      exact h

set_option maxRecDepth 100000 in
set_option maxHeartbeats 4000000 in
theorem put_calls (L : List Op) (p : Option Addr) (c n : Nat) (hn : L.length = n) (w : World) (h : Ops w L p c) :
    Calls Try.prog 14 #[.slice p n c] w (PPost L w) := by
  have hcap := h.cap
  have hmax := h.max
  unfold maxLen at hmax
  have q2 : (n : Int) ≤ 9223372036854775807 := by omega
  have HH := Lib.hid h
  have HN := Lib.hid hn
  clear h
  go_enter Try.func14, Try.ntmps14
  go_wp2_with fail
  go_loopw [4, 11] (fun tv i wr => ∃ (k : Nat) (t : List UInt8), k ≤ n ∧ i = .int .i64 k ∧ tv = .string ⟨t.toArray⟩ ∧ Hid (∀ j, j < k → okAt L j) ∧ Hid (Near (txt (L.take k)) t) ∧ t.length ≤ 1355 ∧ Below w.heap.size w wr) (fun _ i _ => n - (intOf i).toNat)
  case atStart => exact ⟨0, [], Nat.zero_le _, rfl, rfl, Lib.hid (fun j hj => absurd hj (by omega)), Lib.hid (Near.refl []), by simp, Below.refl _ _⟩
  case round =>
    obtain ⟨k, t, hkn, rfl, rfl, HG, HT, ht, hB⟩ := hrel
    have hsz := hB.size
    rcases Nat.lt_or_eq_of_le hkn with hlt | rfl
    · have hkl : k < L.length := by omega
      rcases HH.out.cells with h0 | ⟨b, o, rfl, hbl, hc⟩
      · rw [h0] at hkl; simp at hkl
      · have HC := Lib.hid hc
        obtain ⟨c0, c1, c2⟩ := hc k hkl
        rw [← hB.cell (p := ⟨b, _, none⟩) hbl] at c0 c1 c2
        have q1 : (k : Int) < (n : Int) := by omega
        have hlb : b < wr.heap.size := Nat.lt_of_lt_of_le hbl hB.size
        have HX := Lib.hid (txt_next hkl)
        have HK := Lib.hid (List.getElem?_eq_getElem hkl)
        have HKL := Lib.hid hkl
        generalize L[k] = x at *
        have HS := Lib.hid (stepOf_calls x)
        have HB := Lib.hid hB
        have HI := Lib.hid (fun y => one_calls y x)
        obtain ⟨xk, xs, xn⟩ := x
        simp only at c0 c1 c2
        have HNW := Lib.hid (at_new wr (.cells #[.int .i64 xk, .string ⟨xs.toArray⟩, .int .i64 xn] 32 (0, 0)))
        have HBA := Lib.hid (HB.out.alloc hsz (.cells #[.int .i64 xk, .string ⟨xs.toArray⟩, .int .i64 xn] 32 (0, 0)))
        clear hc hB hkl
        by_cases hok : Ok ⟨xk, xs, xn⟩
        · rw [(stepB_iff _).2 hok, stepV_ok hok] at HS
          have HOK := Lib.hid hok
          clear hok
          obtain ⟨T, v, hV, hTX⟩ := text_of ⟨xk, xs, xn⟩ HOK.out
          have HTX := Lib.hid hTX
          rw [hV] at HS
          clear hV hTX
          go_wp2_with fail
          refine (HS.out _).mono ?_
          rintro e w5 ⟨rfl, hb5⟩
          have hn5 := (hb5.block _ (at_lt HNW.out)).trans HNW.out
          have hB5 := HBA.out.trans (hb5.mono HBA.out.size)
          have hs5 := hB5.size
          generalize wr.heap.size = g at *
          go_wp2_with fail
          have l5 := at_lt hn5
          obtain ⟨x0, x1, x2⟩ := row3 hn5
          have HB5 := Lib.hid hB5
          have HBB := Lib.hid (bnd_at (L := L) HK.out)
          have B50 := Lib.hid (Below.refl w5.heap.size w5)
          clear hn5 hB5 hb5 HNW HBA c0 c1 c2
          obtain ⟨bo, hbo⟩ : ∃ bo, bnd L ⟨xk, xs, xn⟩ k = bo := ⟨_, rfl⟩
          rw [hbo] at HBB
          go_cut [35] (fun s wx => s = .bool bo ∧ Below w5.heap.size w5 wx)
          case first =>
            rcases Nat.eq_zero_or_pos k with rfl | hk0
            · have hf : bo = false := hbo.symm
              subst hf
              go_quiet (fail)
              go_wp2_with fail
              go_meet
              exact ⟨rfl, below_drew (Below.refl _ _)⟩
            · obtain ⟨j, hj⟩ : ∃ j, k = j + 1 := ⟨k - 1, by omega⟩
              have hkk : j < L.length := by have := HKL.out; omega
              obtain ⟨c0, c1, c2⟩ := HC.out j hkk
              have hbq : isOne L[j] ⟨xk, xs, xn⟩ = bo := by rw [← hbo, hj]; simp only [bnd, List.getElem?_eq_getElem hkk]
              have HI5 := Lib.hid (HI.out L[j])
              rw [hbq] at HI5
              have hlb5 : b < w5.heap.size := by omega
              rw [← HB5.out.cell (p := ⟨b, _, none⟩) hbl] at c0 c1 c2
              generalize L[j] = y at *
              obtain ⟨yk, ys, yn⟩ := y
              simp only at c0 c1 c2
              clear hbq hbo
              have q5 : (j : Int) < (n : Int) := by omega
              have q4 : j < n := by omega
              have q6 : decide ((0 : Int) < (k : Int)) = true := decide_eq_true (by omega)
              have q8 : (0 : Int) < (k : Int) := by omega
              have q7 : IntKind.i64.wrap ((k : Int) - 1) = (j : Int) := by rw [IntWalk.i64_in _ (by omega)]; omega
              have HJ := Lib.hid hj
              clear hj
              go_region_held3 (fun w' => Below w5.heap.size w5 w' ∧ w'.cell? ⟨b, o + j * 3, none⟩ = some (.int .i64 yk) ∧ w'.cell? ⟨b, o + j * 3 + 1, none⟩ = some (.string ⟨ys.toArray⟩) ∧ w'.cell? ⟨b, o + j * 3 + 2, none⟩ = some (.int .i64 yn) ∧ w'.cell? ⟨g, 0, none⟩ = some (.int .i64 xk) ∧ w'.cell? ⟨g, 1, none⟩ = some (.string ⟨xs.toArray⟩) ∧ w'.cell? ⟨g, 2, none⟩ = some (.int .i64 xn))
                (first
                  | exact held6 (below_drew (Below.refl _ _)) hlb5 l5 c0 c1 c2 x0 x1 x2
                  | exact held6 hb6 hlb5 l5 c0 c1 c2 x0 x1 x2)
                (first
                  | (go_at_call 23; go_split_ands; refine (HI5.out _).mono ?_; rintro e w6 ⟨rfl, hb6⟩; replace hb6 := Below.trans (by assumption) (hb6.mono (Below.size (by assumption)))))
              all_goals
                go_wp2_with fail
                go_meet
                exact ⟨rfl, hb6⟩
          case rest =>
            obtain ⟨rfl, hbx⟩ := hcut
            have BX := Lib.hid (HB5.out.trans (hbx.mono hs5))
            clear hbx hbo
            cases bo with
            | true =>
              have HNO := Lib.hid (show ¬ okAt L k from fun e => by have := (HBB.out.1 e).2; cases this)
              go_wp2_with fail
              go_ret2
              exact put_bad HKL.out HNO.out BX.out
            | false =>
              have HYES := Lib.hid (HBB.out.2 ⟨HOK.out, rfl⟩)
              by_cases hb : 255 < t.length
              · have q : ¬ (t.length : Int) ≤ 255 := by omega
                go_wp2_with fail
                go_roundw
                case rel => exact ⟨k + 1, t, by omega, by go_num, rfl, Lib.hid (fun i hi => by
                  rcases Nat.lt_or_eq_of_le (Nat.le_of_lt_succ hi) with h | rfl
                  · exact HG.out i h
                  · exact HYES.out), Lib.hid (by rw [HX.out]; exact HT.out.big _ hb), ht, BX.out⟩
                case measure => simp [intOf]; omega
              · have q : (t.length : Int) ≤ 255 := by omega
                go_wp2_with fail
                rcases HTX.out with ⟨rfl, HF⟩ | ⟨rfl, HF⟩ | ⟨rfl, HF⟩
                · rw [find_val (f := 72) (by kernel_rfl) Try.underlying58 (fun E h => nomatch h)]
                  have HFF := Lib.hid HF
                  unfold TextOf at HFF
                  clear HF
                  go_wp2_with fail
                  refine (HFF.out _).mono ?_
                  rintro e w7 ⟨⟨u, rfl, hu, hul⟩, hb7⟩
                  have N7 := Lib.hid (HT.out.app hu)
                  have B7 := Lib.hid (BX.out.trans (hb7.mono BX.out.size))
                  clear hu hb7
                  go_wp2_with fail
                  go_roundw
                  case rel => exact ⟨k + 1, t ++ u, by omega, by go_num, by rw [← bytes_add], Lib.hid (fun i hi => by
                    rcases Nat.lt_or_eq_of_le (Nat.le_of_lt_succ hi) with h | rfl
                    · exact HG.out i h
                    · exact HYES.out), Lib.hid (by rw [HX.out]; exact N7.out), by rw [List.length_append]; omega, B7.out⟩
                  case measure => simp [intOf]; omega
                · rw [find_val (f := 76) (by kernel_rfl) Try.underlying59 (fun E h => nomatch h)]
                  have HFF := Lib.hid HF
                  unfold TextOf at HFF
                  clear HF
                  go_wp2_with fail
                  refine (HFF.out _).mono ?_
                  rintro e w7 ⟨⟨u, rfl, hu, hul⟩, hb7⟩
                  have N7 := Lib.hid (HT.out.app hu)
                  have B7 := Lib.hid (BX.out.trans (hb7.mono BX.out.size))
                  clear hu hb7
                  go_wp2_with fail
                  go_roundw
                  case rel => exact ⟨k + 1, t ++ u, by omega, by go_num, by rw [← bytes_add], Lib.hid (fun i hi => by
                    rcases Nat.lt_or_eq_of_le (Nat.le_of_lt_succ hi) with h | rfl
                    · exact HG.out i h
                    · exact HYES.out), Lib.hid (by rw [HX.out]; exact N7.out), by rw [List.length_append]; omega, B7.out⟩
                  case measure => simp [intOf]; omega
                · rw [find_val (f := 78) (by kernel_rfl) Try.underlying61 (fun E h => nomatch h)]
                  have HFF := Lib.hid HF
                  unfold TextOf at HFF
                  clear HF
                  go_wp2_with fail
                  refine (HFF.out _).mono ?_
                  rintro e w7 ⟨⟨u, rfl, hu, hul⟩, hb7⟩
                  have N7 := Lib.hid (HT.out.app hu)
                  have B7 := Lib.hid (BX.out.trans (hb7.mono BX.out.size))
                  clear hu hb7
                  go_wp2_with fail
                  go_roundw
                  case rel => exact ⟨k + 1, t ++ u, by omega, by go_num, by rw [← bytes_add], Lib.hid (fun i hi => by
                    rcases Nat.lt_or_eq_of_le (Nat.le_of_lt_succ hi) with h | rfl
                    · exact HG.out i h
                    · exact HYES.out), Lib.hid (by rw [HX.out]; exact N7.out), by rw [List.length_append]; omega, B7.out⟩
                  case measure => simp [intOf]; omega
        · have HSB := stepB_no hok
          rw [HSB] at HS
          have HNO := Lib.hid (fun e => hok ((bnd_at HK.out).1 e).1)
          generalize stepV ⟨xk, xs, xn⟩ = V at HS
          clear hok HSB
          go_wp2_with fail
          refine (HS.out _).mono ?_
          rintro e w5 ⟨rfl, hb5⟩
          have B5 := Lib.hid (HBA.out.trans (hb5.mono HBA.out.size))
          clear hb5
          go_wp2_with fail
          go_quiet (fail)
          go_wp2_with fail
          go_ret2
          exact put_bad HKL.out HNO.out (below_drew B5.out)
    · have HL := Lib.hid (show L.take k = L from List.take_of_length_le (by omega))
      rw [HL.out] at HT
      have HGG := Lib.hid (show ∀ j, j < L.length → okAt L j from fun j hj => HG.out j (by omega))
      by_cases hb : 255 < t.length
      · have q : (255 : Int) < (t.length : Int) := by omega
        go_wp2_with fail
        go_ret2
        exact put_big HGG.out HT.out hb hB
      · have q : ¬ (255 : Int) < (t.length : Int) := by omega
        go_wp2_with fail
        go_ret2
        exact put_fit HGG.out HT.out hb hB
end Go.Proofs.Ytiblmhjlngcidaa.Brk

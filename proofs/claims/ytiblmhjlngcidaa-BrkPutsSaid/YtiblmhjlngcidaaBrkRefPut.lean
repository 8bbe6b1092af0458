/-
  Layer 14 (brk): the document's own Put, walked.
-/
import Derived.Test.YtiblmhjlngcidaaBrkRefText
import Derived.Test.YtiblmhjlngcidaaBrkPut
namespace Go.Proofs.Ytiblmhjlngcidaa.Brk
open Go.RowKit Go.Proofs.Ytiblmhjlngcidaa.Digit Go.Proofs.Ytiblmhjlngcidaa.Own

theorem bnd_succ {L : List Op} {x y : Op} {j : Nat} (h : L[j]? = some y) : bnd L x (j + 1) = isOne y x := by simp only [bnd, h]
theorem ok_k {x : Op} (h : Ok x) : x.k = 1 ∨ x.k = 2 ∨ x.k = 3 := by rcases h with ⟨a, _⟩ | ⟨a, _⟩ | ⟨a, _⟩ <;> simp [a]

set_option maxRecDepth 100000 in
set_option maxHeartbeats 8000000 in
theorem rput_calls (L : List Op) (p : Option Addr) (c n : Nat) (hn : L.length = n) (hn2 : n ≤ 1000) (w : World) (h : Ops w L p c) (hL : ∀ x ∈ L, x.s.length ≤ 100000 ∧ x.n ≤ 9223372036854775807) :
    Calls Try.prog 15 #[.slice p n c] w (PPost L w) := by
  have hcap := h.cap
  have hmax := h.max
  unfold maxLen at hmax
  have q2 : (n : Int) ≤ 9223372036854775807 := by omega
  have HH := Lib.hid h
  have HN := Lib.hid hn
  have HLL := Lib.hid hL
  clear h hL
  go_enter Try.func15, Try.ntmps15
  go_wp2_with fail
  go_loopw [4, 5] (fun tv i wr => ∃ (k : Nat) (t : List UInt8), k ≤ n ∧ i = .int .i64 k ∧ tv = .string ⟨t.toArray⟩ ∧ Hid (∀ j, j < k → okAt L j) ∧ Hid (Near (txt (L.take k)) t) ∧ t.length ≤ k * 400300 ∧ Below w.heap.size w wr) (fun _ i _ => n - (intOf i).toNat)
  case atStart => exact ⟨0, [], Nat.zero_le _, rfl, rfl, Lib.hid (fun j hj => absurd hj (by omega)), Lib.hid (Near.refl []), by simp, Below.refl _ _⟩
  case round =>
    obtain ⟨k, t, hkn, rfl, rfl, HG, HT, ht, hB⟩ := hrel
    have hsz := hB.size
    have ht2 : t.length ≤ 1000000000 := by
      have : k * 400300 ≤ 1000 * 400300 := Nat.mul_le_mul_right _ (by omega)
      omega
    rcases Nat.lt_or_eq_of_le hkn with hlt | rfl
    · have hkl : k < L.length := by omega
      rcases HH.out.cells with h0 | ⟨b, o, rfl, hbl, hc⟩
      · rw [h0] at hkl; simp at hkl
      · have HC := Lib.hid hc
        obtain ⟨c0, c1, c2⟩ := hc k hkl
        rw [← hB.cell (p := ⟨b, _, none⟩) hbl] at c0 c1 c2
        have q1 : (k : Int) < (n : Int) := by omega
        have hlb : b < wr.heap.size := Nat.lt_of_lt_of_le hbl hB.size
        have HX := Lib.hid (txt_next hkl)
        have HK := Lib.hid (List.getElem?_eq_getElem hkl)
        have HKL := Lib.hid hkl
        obtain ⟨hxl, hxn⟩ := HLL.out L[k] (List.getElem_mem hkl)
        generalize L[k] = x at *
        have HS := Lib.hid (rtext_calls x hxl hxn)
        have HB := Lib.hid hB
        have HBN := Lib.hid (bnd_at (L := L) HK.out)
        obtain ⟨xk, xs, xn⟩ := x
        simp only at c0 c1 c2 hxl hxn
        clear hc hB hkl
        go_wp2_with fail
        refine (HS.out _).mono ?_
        rintro e w5 ⟨hw, hb5⟩
        have B5 := Lib.hid (HB.out.trans (hb5.mono hsz))
        have d0 := (hb5.cell (p := ⟨b, _, none⟩) hlb).trans c0
        have d1 := (hb5.cell (p := ⟨b, _, none⟩) hlb).trans c1
        have d2 := (hb5.cell (p := ⟨b, _, none⟩) hlb).trans c2
        have hlb5 : b < w5.heap.size := Nat.lt_of_lt_of_le hlb hb5.size
        clear hb5 c0 c1 c2
        rcases hw with ⟨hok, u, rfl, hu, hul⟩ | ⟨hno, rfl⟩
        · have HU := Lib.hid hu
          have hkk := ok_k hok
          have HOK := Lib.hid hok
          simp only at hul hkk
          clear hu hok
          rcases Nat.eq_zero_or_pos k with rfl | hk0
          · have HYES := Lib.hid (HBN.out.2 ⟨HOK.out, rfl⟩)
            go_wp2_with fail
            go_quiet (fail)
            go_wp2_with fail
            go_roundw
            case rel => exact ⟨0 + 1, t ++ u, by omega, by go_num, by rw [← bytes_add], Lib.hid (fun i hi => by
              rcases Nat.lt_or_eq_of_le (Nat.le_of_lt_succ hi) with h | rfl
              · exact HG.out i h
              · exact HYES.out), Lib.hid (by rw [HX.out]; exact HT.out.app HU.out), by rw [List.length_append]; omega, below_drew B5.out⟩
            case measure => simp [intOf]; omega
          · obtain ⟨j, hj⟩ : ∃ j, k = j + 1 := ⟨k - 1, by omega⟩
            have hkk2 : j < L.length := by have := HKL.out; omega
            obtain ⟨e0, e1, e2⟩ := HC.out j hkk2
            have HYB := Lib.hid (show bnd L ⟨xk, xs, xn⟩ k = isOne L[j] ⟨xk, xs, xn⟩ by rw [hj]; exact bnd_succ (List.getElem?_eq_getElem hkk2))
            rw [← B5.out.cell (p := ⟨b, _, none⟩) hbl] at e0 e1 e2
            generalize L[j] = y at *
            obtain ⟨yk, ys, yn⟩ := y
            simp only at e0 e1 e2
            have q5 : (j : Int) < (n : Int) := by omega
            have q4 : j < n := by omega
            have q6 : decide ((0 : Int) < (k : Int)) = true := decide_eq_true (by omega)
            have q8 : (0 : Int) < (k : Int) := by omega
            have q7 : IntKind.i64.wrap ((k : Int) - 1) = (j : Int) := by rw [IntWalk.i64_in _ (by omega)]; omega
            have HJ := Lib.hid hj
            clear hj
            rcases hkk with rfl | rfl | rfl
            · by_cases he : yk = 1
              · have v3 : ((1 : Int) == yk) = true := by simp [he]
                have v4 : (yk == 1) = true := by simp [he]
                have HNO := Lib.hid (show ¬ okAt L k from fun e => by
                  have := (HBN.out.1 e).2
                  rw [HYB.out] at this
                  simp [isOne, he] at this)
                have HE := Lib.hid he
                clear he
                go_wp2_with fail
                go_quiet (fail)
                go_wp2_with fail
                go_ret2
                exact put_bad HKL.out HNO.out (below_drew B5.out)
              · have v3 : ((1 : Int) == yk) = false := by simp; omega
                have v4 : (yk == 1) = false := by simp; omega
                have HYES := Lib.hid (HBN.out.2 ⟨HOK.out, by rw [HYB.out]; simp [isOne, he]⟩)
                clear he
                go_wp2_with fail
                go_quiet (fail)
                go_wp2_with fail
                go_roundw
                case rel => exact ⟨k + 1, t ++ u, by omega, by go_num, by rw [← bytes_add], Lib.hid (fun i hi => by
                  rcases Nat.lt_or_eq_of_le (Nat.le_of_lt_succ hi) with h | rfl
                  · exact HG.out i h
                  · exact HYES.out), Lib.hid (by rw [HX.out]; exact HT.out.app HU.out), by rw [List.length_append]; omega, below_drew B5.out⟩
                case measure => simp [intOf]; omega
            · by_cases he : yk = 2
              · have v3 : ((2 : Int) == yk) = true := by simp [he]
                have v4 : (yk == 2) = true := by simp [he]
                have HNO := Lib.hid (show ¬ okAt L k from fun e => by
                  have := (HBN.out.1 e).2
                  rw [HYB.out] at this
                  simp [isOne, he] at this)
                have HE := Lib.hid he
                clear he
                go_wp2_with fail
                go_quiet (fail)
                go_wp2_with fail
                go_ret2
                exact put_bad HKL.out HNO.out (below_drew B5.out)
              · have v3 : ((2 : Int) == yk) = false := by simp; omega
                have v4 : (yk == 2) = false := by simp; omega
                have HYES := Lib.hid (HBN.out.2 ⟨HOK.out, by rw [HYB.out]; simp [isOne, he]⟩)
                clear he
                go_wp2_with fail
                go_quiet (fail)
                go_wp2_with fail
                go_roundw
                case rel => exact ⟨k + 1, t ++ u, by omega, by go_num, by rw [← bytes_add], Lib.hid (fun i hi => by
                  rcases Nat.lt_or_eq_of_le (Nat.le_of_lt_succ hi) with h | rfl
                  · exact HG.out i h
                  · exact HYES.out), Lib.hid (by rw [HX.out]; exact HT.out.app HU.out), by rw [List.length_append]; omega, below_drew B5.out⟩
                case measure => simp [intOf]; omega
            · have HYES := Lib.hid (HBN.out.2 ⟨HOK.out, by rw [HYB.out]; simp only [isOne]; by_cases e : yk = 3 <;> simp [e]⟩)
              go_wp2_with fail
              go_quiet (fail)
              go_wp2_with fail
              go_roundw
              case rel => exact ⟨k + 1, t ++ u, by omega, by go_num, by rw [← bytes_add], Lib.hid (fun i hi => by
                rcases Nat.lt_or_eq_of_le (Nat.le_of_lt_succ hi) with h | rfl
                · exact HG.out i h
                · exact HYES.out), Lib.hid (by rw [HX.out]; exact HT.out.app HU.out), by rw [List.length_append]; omega, below_drew B5.out⟩
              case measure => simp [intOf]; omega
        · have HNO := Lib.hid (show ¬ okAt L k from fun e => hno (HBN.out.1 e).1)
          clear hno
          go_wp2_with fail
          go_quiet (fail)
          go_wp2_with fail
          go_ret2
          exact put_bad HKL.out HNO.out (below_drew B5.out)
    · have HL := Lib.hid (show L.take k = L from List.take_of_length_le (by omega))
      rw [HL.out] at HT
      have HGG := Lib.hid (show ∀ j, j < L.length → okAt L j from fun j hj => HG.out j (by omega))
      by_cases hb : 255 < t.length
      · have q : (255 : Int) < (t.length : Int) := by omega
        go_wp2_with fail
        go_ret2
        exact put_big HGG.out HT.out hb hB
      · have q : ¬ (255 : Int) < (t.length : Int) := by omega
        go_wp2_with fail
        go_ret2
        exact put_fit HGG.out HT.out hb hB
end Go.Proofs.Ytiblmhjlngcidaa.Brk

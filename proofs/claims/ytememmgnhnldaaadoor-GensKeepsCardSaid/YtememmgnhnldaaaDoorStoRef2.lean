/-
  Layer 11 (store): the document's own store: places, files, all bytes, what comes ahead of a call, all files but one.
-/
import Derived.Test.YtememmgnhnldaaaDoorStoRef1
namespace Go.Proofs.YtememmgnhnldaaaDoor.Sto
open Go.RowKit Go.Proofs.YtememmgnhnldaaaDoor.Own
open Go.Proofs.YtememmgnhnldaaaDoor.Rw (str strs Row1)

/-- the document's store as a value -/
abbrev rv (p : Option Addr) (n c : Nat) (most bad : Int) : Value := .agg #[.slice p n c, .int .i64 most, .int .i64 bad]

theorem text_same {x a : ByteArray} (h : x = a) : (x.toList == a.toList) = true := by rw [h]; simp
theorem text_other {x a : ByteArray} (h : ¬ x = a) : (x.toList == a.toList) = false := by
  rw [ByteArray.toList_eq, ByteArray.toList_eq, beq_eq_false_iff_ne]
  intro e
  apply h
  cases x; cases a
  simp only at e
  congr 1
  exact Array.toList_inj.1 e
/-- where a file stands -/
def PlAt (L : List Fl) (a : Bs) (k : Int) : Prop := (k = -1 ∧ ∀ x ∈ L, x.nm ≠ a) ∨ ∃ (i : Nat) (hi : i < L.length), k = i ∧ L[i].nm = a
theorem place_calls (L : List Fl) (p : Option Addr) (c n : Nat) (hn : L.length = n) (most bad : Int) (a : ByteArray) (w : World) (h : Fs w p c L) :
    Calls Tryd.prog 44 #[rv p n c most bad, .string a] w fun e w' => ∃ k : Int, e = .returned (.int .i64 k) ∧ Below w.heap.size w w' ∧ PlAt L a.data.toList k := by
  have H := Lib.hid h
  have HN := Lib.hid hn
  have hc := h.cap
  have hm := h.max
  rw [hn] at hc
  clear h hn
  go_enter Tryd.func44, Tryd.ntmps44
  go_wp2_with fail
  go_loop [5] (fun i => ∃ k : Nat, k ≤ n ∧ Hid (∀ j (hj : j < L.length), j < k → L[j].nm ≠ a.data.toList) ∧ i = .int .i64 k) (fun i => n - (intOf i).toNat)
  case atStart => exact ⟨0, by omega, Lib.hid fun j hj h => absurd h (by omega), rfl⟩
  case round =>
    obtain ⟨k, hk, HA, rfl⟩ := hrel
    by_cases hlt : k < n
    · have hkL : k < L.length := by rw [HN.out]; exact hlt
      obtain ⟨b, o, rfl, hb, c0, -, -⟩ := H.out.at_ hkL
      have d0 := cell_alloc c0 (.cells #[.slice (some ⟨b, o, none⟩) n c, .int .i64 most, .int .i64 bad] 26 (0, 0))
      obtain ⟨x, hx⟩ : ∃ s : ByteArray, s = ⟨(L[k].nm).toArray⟩ := ⟨_, rfl⟩
      rw [str, ← hx] at d0 c0
      have HX := Lib.hid hx
      have q1 : (k : Int) < (n : Int) := by omega
      have q2 : (n : Int) ≤ 9223372036854775807 := by unfold maxLen at hm; omega
      clear hx c0
      by_cases hi : x = a
      · have hb' := text_same hi
        have HF : Hid (L[k].nm = a.data.toList) := Lib.hid (by rw [← hi, HX.out])
        replace hi := Lib.hid hi
        go_wp2_with fail
        go_ret
        exact ⟨_, rfl, (Below.refl _ _).alloc (Nat.le_refl _) _, .inr ⟨k, hkL, rfl, HF.out⟩⟩
      · have hb' := text_other hi
        have HF : Hid (∀ j (hj : j < L.length), j < k + 1 → L[j].nm ≠ a.data.toList) := Lib.hid fun j hj hjk e => by
          rcases Nat.lt_or_eq_of_le (Nat.le_of_lt_succ hjk) with h | rfl
          · exact HA.out j hj h e
          · exact hi (by rw [HX.out, e])
        replace hi := Lib.hid hi
        go_wp2_with fail
        go_round
        case rel => exact ⟨k + 1, by omega, HF, by go_num⟩
        case measure => simp [intOf]; omega
    · have q1 : ¬ (k : Int) < (n : Int) := by omega
      go_wp2_with fail
      go_ret
      refine ⟨_, rfl, (Below.refl _ _).alloc (Nat.le_refl _) _, .inl ⟨rfl, fun x hx => ?_⟩⟩
      obtain ⟨j, hj, rfl⟩ := List.getElem_of_mem hx
      exact HA.out j hj (by have := HN.out; omega)
theorem total_ref (L : List Fl) (p : Option Addr) (c n : Nat) (hn : L.length = n) (most bad : Int) (w : World) (h : Fs w p c L) (ht : tot L ≤ 16777216) :
    Calls Tryd.prog 33 #[rv p n c most bad] w fun e w' => e = .returned (.int .i64 (tot L : Nat)) ∧ Below w.heap.size w w' := by
  have H := Lib.hid h
  have HN := Lib.hid hn
  have hc := h.cap
  have hm := h.max
  rw [hn] at hc
  have HT := Lib.hid ht
  clear h hn ht
  go_enter Tryd.func33, Tryd.ntmps33
  go_wp2_with fail
  go_loop [3, 4] (fun s i => ∃ k T : Nat, k ≤ n ∧ T ≤ 16777216 ∧ Hid (T = tot (L.take k)) ∧ s = .int .i64 T ∧ i = .int .i64 k) (fun _ i => n - (intOf i).toNat)
  case atStart => exact ⟨0, 0, by omega, by omega, Lib.hid rfl, rfl, rfl⟩
  case round =>
    obtain ⟨k, T, hk, hT, HA, rfl, rfl⟩ := hrel
    by_cases hlt : k < n
    · have hkL : k < L.length := by rw [HN.out]; exact hlt
      obtain ⟨b, o, rfl, hb, -, c1, -⟩ := H.out.at_ hkL
      have d1 := cell_alloc c1 (.cells #[.slice (some ⟨b, o, none⟩) n c, .int .i64 most, .int .i64 bad] 26 (0, 0))
      obtain ⟨x, hx⟩ : ∃ s : ByteArray, s = ⟨(L[k].bs).toArray⟩ := ⟨_, rfl⟩
      rw [str, ← hx] at d1
      have hxs : x.size = L[k].bs.length := by rw [hx]; rfl
      have hnext : tot (L.take (k + 1)) = tot (L.take k) + x.size := by
        rw [List.take_add_one, List.getElem?_eq_getElem hkL, tot_app, hxs]
        simp [tot]
      have hle : tot (L.take (k + 1)) ≤ 16777216 := by
        have := tot_app (L.take (k + 1)) (L.drop (k + 1))
        rw [List.take_append_drop] at this
        have := HT.out
        omega
      have hTx : T + x.size ≤ 16777216 := by have := HA.out; omega
      have HF : Hid (T + x.size = tot (L.take (k + 1))) := Lib.hid (by rw [hnext, HA.out])
      have q1 : (k : Int) < (n : Int) := by omega
      have q2 : (n : Int) ≤ 9223372036854775807 := by unfold maxLen at hm; omega
      clear hx c1 hnext hle hxs
      go_wp2_with fail
      go_round
      case rel => exact ⟨k + 1, T + x.size, by omega, hTx, HF, by go_num, by go_num⟩
      case measure => simp [intOf]; omega
    · have q1 : ¬ (k : Int) < (n : Int) := by omega
      go_wp2_with fail
      go_ret
      have e : L.take k = L := List.take_of_length_le (by have := HN.out; omega)
      exact ⟨by rw [HA.out, e]; rfl, (Below.refl _ _).alloc (Nat.le_refl _) _⟩
end Go.Proofs.YtememmgnhnldaaaDoor.Sto

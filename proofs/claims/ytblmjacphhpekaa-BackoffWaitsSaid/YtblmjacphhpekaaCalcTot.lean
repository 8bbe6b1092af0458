/-
  Layer 1 (calc): the walk of Total, over ticks that lie one behind the other.
-/
import Derived.Test.YtblmjacphhpekaaCalcAdd
import Derived.LoopTactic
namespace Go.Proofs.Ytblmjacphhpekaa.Calc
open Go.RowKit

theorem total_step (t : Int) (zs : List Int) (len k : Nat) (h : k < len) (hl : len ≤ zs.length) :
    total t ((zs.take len).drop k) = if addC t (zs.getD k 0) = 0 then total (addV t (zs.getD k 0)) ((zs.take len).drop (k + 1)) else (0, addC t (zs.getD k 0)) := by
  have hk : k < (zs.take len).length := by simp; omega
  rw [List.drop_eq_getElem_cons hk]
  have e : (zs.take len)[k] = zs.getD k 0 := by
    rw [List.getElem_take, List.getD_eq_getElem?_getD, List.getElem?_eq_getElem (by omega)]; rfl
  rw [e]; rfl

theorem total_at (b off len cap : Nat) (zs : List Int) (w : World) (hl : len ≤ zs.length) (hm : cap ≤ maxLen) (hz : len ≤ cap) (hcell : ∀ k, k < len → w.cell? ⟨b, off + k, none⟩ = some (.int .i64 (zs.getD k 0))) :
    Calls Try.prog 18 #[.slice (some ⟨b, off, none⟩) len cap] w fun e w' => e = .returned (.tuple #[.int .i64 (total 0 (zs.take len)).1, .int .i64 (total 0 (zs.take len)).2]) ∧ w = w' := by
  unfold maxLen at hm
  go_enter Try.func18, Try.ntmps18
  go_wp2
  go_loop [4, 11] (fun s i => ∃ (k : Nat) (t : Int), k ≤ len ∧ i = .int .i64 k ∧ s = .int .i64 t ∧ total 0 (zs.take len) = total t ((zs.take len).drop k)) (fun _ i => len - (intOf i).toNat)
  case atStart => exact ⟨0, 0, Nat.zero_le _, rfl, rfl, rfl⟩
  case round =>
    obtain ⟨k, t, hk, rfl, rfl, ht⟩ := hrel
    by_cases hlt : k < len
    · have hc := hcell k (by omega)
      have hs : Hid (total t ((zs.take len).drop k) = if addC t (zs.getD k 0) = 0 then total (addV t (zs.getD k 0)) ((zs.take len).drop (k + 1)) else (0, addC t (zs.getD k 0))) := Lib.hid (total_step t zs len k hlt (by omega))
      have HT := Lib.hid ht
      clear ht hcell
      generalize zs.getD k 0 = x at hc hs
      by_cases hx : addC t x = 0
      · have hb : (addC t x == 0) = true := by simp [hx]
        have HX := Lib.hid hx
        clear hx
        go_wp2_with (go_at_call 22; refine (add_calls _ _ _).mono ?_; rintro e w' ⟨rfl, rfl⟩)
        go_round
        case rel => exact ⟨k + 1, addV t x, by omega, by go_num, rfl, by rw [HT.out, hs.out, if_pos HX.out]⟩
        case measure => simp [intOf]; omega
      · have hb : (addC t x == 0) = false := by simp [hx]
        have HX := Lib.hid hx
        clear hx
        go_wp2_with (go_at_call 22; refine (add_calls _ _ _).mono ?_; rintro e w' ⟨rfl, rfl⟩)
        go_ret2
        exact ⟨ret_two (by rw [HT.out, hs.out, if_neg HX.out]) (by rw [HT.out, hs.out, if_neg HX.out]), rfl⟩
    · have HT : Hid (total 0 (zs.take len) = (t, 0)) := Lib.hid (by rw [ht, List.drop_eq_nil_of_le (by simp; omega)]; rfl)
      clear ht
      go_wp2
      go_ret2
      exact ⟨ret_two (by rw [HT.out]) (by rw [HT.out]), rfl⟩
end Go.Proofs.Ytblmjacphhpekaa.Calc

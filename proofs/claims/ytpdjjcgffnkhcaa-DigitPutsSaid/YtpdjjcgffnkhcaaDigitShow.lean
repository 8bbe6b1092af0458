/-
  Layer 2 (digit): the document's own Sign, Show and Unshow, walked.
-/
import Derived.Test.YtpdjjcgffnkhcaaDigitRead
namespace Go.Proofs.Ytpdjjcgffnkhcaa.Digit
open Go.RowKit

/-- string([]byte{c}) -/
theorem run_byte_string {P : Program} (W : World) (c : Int) (src dst e : TypeId) (hs : P.underlying src = some (.slice e)) (he : P.underlying e = some (.int .u8)) (hd : P.underlying dst = some .string) :
    (convert src dst (.slice (some ⟨W.heap.size, 0, none⟩) 1 1)).run P (W.alloc (.cells #[.int .u8 c] e)) = .ok (.string ⟨#[c.toNat.toUInt8]⟩) (W.alloc (.cells #[.int .u8 c] e)) := by
  rw [run_convert_bytes_string _ src dst e _ 1 1 hs he hd]
  have hl := run_loadCells_list (P := P) (W.alloc (.cells #[.int .u8 c] e)) ⟨W.heap.size, 0, none⟩ ([c].map (Value.int .u8)) (fun j v hj => by
    match j, hj with
    | 0, hj => simp at hj; subst hj; rw [show (⟨W.heap.size, 0, none⟩ : Addr).add 0 = ⟨W.heap.size, 0, none⟩ from rfl]; simp
    | j + 1, hj => simp at hj)
  rw [run_bytesToString _ _ 1 1 [c] hl]
  rfl

theorem run_byte_at {P : Program} (W : World) (b : Nat) (c : Int) (src dst e : TypeId) (hs : P.underlying src = some (.slice e)) (he : P.underlying e = some (.int .u8)) (hd : P.underlying dst = some .string)
    (hc : W.cell? ⟨b, 0, none⟩ = some (.int .u8 c)) :
    (convert src dst (.slice (some ⟨b, 0, none⟩) 1 1)).run P W = .ok (.string ⟨#[c.toNat.toUInt8]⟩) W := by
  rw [run_convert_bytes_string _ src dst e _ 1 1 hs he hd]
  have hl := run_loadCells_list (P := P) W ⟨b, 0, none⟩ ([c].map (Value.int .u8)) (fun j v hj => by
    match j, hj with
    | 0, hj => simp at hj; subst hj; exact hc
    | j + 1, hj => simp at hj)
  rw [run_bytesToString _ _ 1 1 [c] hl]
  rfl

theorem ret_u8 {a b : Int} (h : a = b) : Ending.returned (.int .u8 a) = .returned (.int .u8 b) := by rw [h]

theorem ret_text {a b : List UInt8} {c d : Int} (h : a = b) (g : c = d) : Ending.returned (.tuple #[.string ⟨a.toArray⟩, .int .i64 c]) = .returned (.tuple #[.string ⟨b.toArray⟩, .int .i64 d]) := by rw [h, g]

theorem rsign_calls (c : Int) (h0 : 0 ≤ c) (h1 : c < 256) (w : World) :
    Calls Try.prog 29 #[.int .u8 c] w fun e w' => e = .returned (.string ⟨(sgn c.toNat).toArray⟩) ∧ Below w.heap.size w w' := by
  by_cases e1 : c = 92
  · subst e1
    go_enter Try.func29, Try.ntmps29
    go_wp2_with fail
    go_ret
    exact ⟨rfl, Below.refl _ _⟩
  by_cases e2 : c = 10
  · subst e2
    go_enter Try.func29, Try.ntmps29
    go_wp2_with fail
    go_ret
    exact ⟨rfl, Below.refl _ _⟩
  by_cases e3 : c = 13
  · subst e3
    go_enter Try.func29, Try.ntmps29
    go_wp2_with fail
    go_ret
    exact ⟨rfl, Below.refl _ _⟩
  by_cases e4 : c = 9
  · subst e4
    go_enter Try.func29, Try.ntmps29
    go_wp2_with fail
    go_ret
    exact ⟨rfl, Below.refl _ _⟩
  have H := Lib.hid (sgn_other (n := c.toNat) (by omega) (by omega) (by omega) (by omega))
  by_cases e5 : c < 32
  · go_enter Try.func29, Try.ntmps29
    go_wp2_with (go_at_call 17; refine (rhex_calls _ (by omega) (by omega) _).mono ?_; rintro e w' ⟨rfl, rfl⟩)
    go_ret
    exact ⟨ret_string (by rw [H.out, if_pos (by omega)]; exact bytes_add [92, 120] _), Below.refl _ _⟩
  by_cases e6 : 126 < c
  · go_enter Try.func29, Try.ntmps29
    go_wp2_with (go_at_call 17; refine (rhex_calls _ (by omega) (by omega) _).mono ?_; rintro e w' ⟨rfl, rfl⟩)
    go_ret
    exact ⟨ret_string (by rw [H.out, if_pos (by omega)]; exact bytes_add [92, 120] _), Below.refl _ _⟩
  · have hcv := fun (W : World) => run_byte_string W c 41 9 5 Try.underlying41 Try.underlying5 Try.underlying9
    go_enter Try.func29, Try.ntmps29
    go_wp2_with fail
    go_ret
    exact ⟨ret_string (by rw [H.out, if_neg (by omega)]), (Below.refl _ _).alloc (Nat.le_refl _) _⟩

set_option maxHeartbeats 400000 in
theorem rshow_calls (s : ByteArray) (hs : s.size ≤ 100000) (w : World) :
    Calls Try.prog 21 #[.string s] w fun e w' => e = .returned (.string ⟨(shw s.data.toList).toArray⟩) ∧ Below w.heap.size w w' := by
  go_enter Try.func21, Try.ntmps21
  go_wp2
  go_loopw [3, 4] (fun o i wr => ∃ k : Nat, k ≤ s.size ∧ i = .int .i64 k ∧ o = .string ⟨(shw (s.data.toList.take k)).toArray⟩ ∧ Below w.heap.size w wr) (fun _ i _ => s.size - (intOf i).toNat)
  case atStart => exact ⟨0, Nat.zero_le _, rfl, rfl, Below.refl _ _⟩
  case round =>
    obtain ⟨k, hk, rfl, rfl, hb⟩ := hrel
    have hl := shw_len (s.data.toList.take k)
    rw [List.length_take, size_list, Nat.min_eq_left hk] at hl
    by_cases hlt : k < s.size
    · have HS := Lib.hid (shw_snoc s k hlt)
      have hl2 := (sgn_len s[k].toNat).2
      have hc : (s[k].toNat : Int) < 256 := by have := s[k].toNat_lt; omega
      generalize shw (s.data.toList.take k) = o at hl HS
      go_wp2_with (go_at_call 29; refine (rsign_calls _ (by omega) (by omega) _).mono ?_; rintro e w' ⟨rfl, hb1⟩)
      go_roundw
      case rel => exact ⟨k + 1, by omega, by go_num, by rw [HS.out, ← bytes_add], hb.trans (hb1.mono hb.size)⟩
      case measure => simp [intOf]; omega
    · go_wp2_with fail
      go_ret
      exact ⟨ret_string (by rw [List.take_of_length_le (by rw [size_list]; omega)]), hb⟩

theorem ext_take (l : List UInt8) (n : Nat) : ((⟨l.toArray⟩ : ByteArray).extract 0 n).toList = l.take n := by
  rw [ByteArray.toList_eq]; simp
theorem ext_drop (l : List UInt8) (n : Nat) : (⟨l.toArray⟩ : ByteArray).extract n l.length = ⟨(l.drop n).toArray⟩ := by
  apply ByteArray.ext; simp
  exact List.take_of_length_le (by simp)
theorem no_any {m : List UInt8} {k : Nat} (hp : ¬ sgn (mean m) <+: m) (hk : k < 256) : ¬ sgn k <+: m := fun h => by
  rw [mean_pre hk h] at hp; exact hp h
theorem no_pre {m : List UInt8} {k : Nat} (hk : k < mean m) : ¬ sgn k <+: m := fun h => by
  have := mean_pre (by have := mean_bd m; omega) h; omega
theorem un_less {m : List UInt8} (h0 : m ≠ []) : (m.drop (sgn (mean m)).length).length < m.length := by
  have := (sgn_len (mean m)).1; have := List.length_pos_iff.2 h0; simp; omega
def UnIn (m acc : List UInt8) (M : Nat) (s o f n : Value) : Prop :=
  (f = .bool false ∧ s = .string ⟨m.toArray⟩ ∧ o = .string ⟨acc.toArray⟩ ∧ ∃ k : Nat, k ≤ M ∧ n = .int .i64 k) ∨
  (f = .bool true ∧ s = .string ⟨(m.drop (sgn M).length).toArray⟩ ∧ o = .string ⟨(acc ++ [M.toUInt8]).toArray⟩ ∧ n = .int .i64 ((M : Int) + 1))

set_option maxRecDepth 100000 in
set_option maxHeartbeats 1000000 in
theorem runshow_calls (l : List UInt8) (hs : l.length ≤ 100000) (w : World) :
    Calls Try.prog 20 #[.string ⟨l.toArray⟩] w fun e w' => e = .returned (.tuple #[.string ⟨(unV l).toArray⟩, .int .i64 (unC l)]) ∧ Below w.heap.size w w' := by
  go_enter Try.func20, Try.ntmps20
  go_wp2
  go_loopw [0, 4, 5, 6, 7] (fun s o _ _ _ wr => ∃ m acc : List UInt8, s = .string ⟨m.toArray⟩ ∧ o = .string ⟨acc.toArray⟩ ∧ UnAt l acc m ∧ Below w.heap.size w wr) (fun s _ _ _ _ _ => lenOf s)
  case atStart => exact ⟨l, [], rfl, rfl, un_start l, Below.refl _ _⟩
  case round =>
    obtain ⟨m, acc, rfl, rfl, hu, hb⟩ := hrel
    by_cases h0 : m = []
    · subst h0
      have H := Lib.hid (un_done hu)
      go_wp2_with fail
      go_ret2
      exact ⟨ret_text H.out.1.symm H.out.2.symm, hb⟩
    · have hi : m.isEmpty = false := by simpa using h0
      go_wp2_with fail
      obtain ⟨wo, rfl⟩ : ∃ wo : World, wo = wr := ⟨_, rfl⟩
      by_cases hp : sgn (mean m) <+: m
      · have hu' := un_next hu h0 hp
        have hM := mean_bd m
        go_loopw [0, 4, 5, 6, 7] (fun s o f n _ wr => UnIn m acc (mean m) s o f n ∧ Below w.heap.size w wr) (fun _ _ _ n _ _ => 257 - (intOf n).toNat)
        case atStart => exact ⟨.inl ⟨rfl, rfl, rfl, 0, Nat.zero_le _, rfl⟩, hb⟩
        case round =>
          obtain ⟨hin, hb⟩ := hrel
          rcases hin with ⟨rfl, rfl, rfl, k, hk, rfl⟩ | ⟨rfl, rfl, rfl, rfl⟩
          · by_cases hkM : k < mean m
            · have hl := sgn_len k
              by_cases hlen : (sgn k).length ≤ m.length
              · have hx : (((⟨m.toArray⟩ : ByteArray).extract 0 (sgn k).length).toList == sgn k) = false := by rw [ext_take, beq_eq_false_iff_ne]; exact fun h => no_pre hkM (List.prefix_iff_eq_take.2 h.symm)
                go_wp2_with (go_at_call 29; refine (rsign_calls _ (by omega) (by omega) _).mono ?_; rintro e w' ⟨rfl, hb1⟩)
                go_roundw
                case rel => exact ⟨.inl ⟨rfl, rfl, rfl, k + 1, by omega, by go_num⟩, hb.trans (hb1.mono hb.size)⟩
                case measure => simp [intOf]; omega
              · go_wp2_with (go_at_call 29; refine (rsign_calls _ (by omega) (by omega) _).mono ?_; rintro e w' ⟨rfl, hb1⟩)
                go_roundw
                case rel => exact ⟨.inl ⟨rfl, rfl, rfl, k + 1, by omega, by go_num⟩, hb.trans (hb1.mono hb.size)⟩
                case measure => simp [intOf]; omega
            · obtain rfl : k = mean m := by omega
              have hl := sgn_len (mean m)
              have hlen := hp.length_le
              have hx : (((⟨m.toArray⟩ : ByteArray).extract 0 (sgn (mean m)).length).toList == sgn (mean m)) = true := by rw [ext_take, beq_iff_eq]; exact (List.prefix_iff_eq_take.1 hp).symm
              have hal := hu.2
              go_wp2_with (go_at_call 29; refine (rsign_calls _ (by omega) (by omega) _).mono ?_; rintro e w' ⟨rfl, hb1⟩)
              have hcv := fun (W : World) (b : Nat) (h : W.cell? ⟨b, 0, none⟩ = some (.int .u8 (mean m : Int))) => run_byte_at W b _ 41 9 5 Try.underlying41 Try.underlying5 Try.underlying9 h
              go_region
              all_goals go_wp2_with fail
              go_roundw
              case rel => exact ⟨.inr ⟨rfl, congrArg _ (ext_drop _ _), congrArg _ (bytes_add _ [_]), rfl⟩, (hb.trans (hb1.mono hb.size)).trans (((Below.refl _ _).alloc (Nat.le_trans hb.size hb1.size) _).drew)⟩
              case measure => simp [intOf]; omega
          · by_cases h256 : mean m + 1 < 256
            all_goals
              go_wp2_with fail
              go_roundw
              case rel => exact ⟨_, _, rfl, rfl, hu', hb⟩
              case measure => simp only [lenOf, size_mk]; have := un_less (m := m) h0; omega
      · have H := Lib.hid (un_stop hu h0 hp)
        go_loopw [0, 4, 5, 6, 7] (fun s o f n _ wr => s = .string ⟨m.toArray⟩ ∧ o = .string ⟨acc.toArray⟩ ∧ f = .bool false ∧ (∃ k : Nat, k ≤ 256 ∧ n = .int .i64 k) ∧ Below w.heap.size w wr) (fun _ _ _ n _ _ => 257 - (intOf n).toNat)
        case atStart => exact ⟨rfl, rfl, rfl, ⟨0, by omega, rfl⟩, hb⟩
        case round =>
          obtain ⟨rfl, rfl, rfl, ⟨k, hk, rfl⟩, hb⟩ := hrel
          by_cases hkM : k < 256
          · have hl := sgn_len k
            by_cases hlen : (sgn k).length ≤ m.length
            · have hx : (((⟨m.toArray⟩ : ByteArray).extract 0 (sgn k).length).toList == sgn k) = false := by rw [ext_take, beq_eq_false_iff_ne]; exact fun h => no_any hp hkM (List.prefix_iff_eq_take.2 h.symm)
              go_wp2_with (go_at_call 29; refine (rsign_calls _ (by omega) (by omega) _).mono ?_; rintro e w' ⟨rfl, hb1⟩)
              go_roundw
              case rel => exact ⟨rfl, rfl, rfl, ⟨k + 1, by omega, by go_num⟩, hb.trans (hb1.mono hb.size)⟩
              case measure => simp [intOf]; omega
            · go_wp2_with (go_at_call 29; refine (rsign_calls _ (by omega) (by omega) _).mono ?_; rintro e w' ⟨rfl, hb1⟩)
              go_roundw
              case rel => exact ⟨rfl, rfl, rfl, ⟨k + 1, by omega, by go_num⟩, hb.trans (hb1.mono hb.size)⟩
              case measure => simp [intOf]; omega
          · go_wp2_with fail
            go_ret2
            exact ⟨ret_text (a := []) H.out.1.symm H.out.2.symm, hb⟩

end Go.Proofs.Ytpdjjcgffnkhcaa.Digit

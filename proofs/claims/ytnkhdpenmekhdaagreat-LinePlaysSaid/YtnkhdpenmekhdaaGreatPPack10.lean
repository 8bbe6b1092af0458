/-
Layer 2 (digit): the document's own answers, walked: padding.
Layer 2 (digit): the program's Pad, walked.
Layer 2 (digit): the program's Read, walked.
Layer 2 (digit): the document's own answers, walked: hex.
Layer 2 (digit): the document's own Sign and Show, walked.
Layer 2 (digit): the program's ReadHex, walked.
Layer 14 (brk): waitSign, readTicks, escaped, first.
Layer 14 (brk): kind, op, isOne, stepOf.
Layer 14 (brk): op; a step's text.
Layer 14 (brk): behind.
Layer 14 (brk): Read.
Layer 19 (line): New, walked.
Layer 14 (brk): what the document's own one asks, number by number.
Layer 14 (brk): the document's own one, walked.
-/
import Derived.Test.YtnkhdpenmekhdaaGreatPPack9
import Derived.Test.YtnkhdpenmekhdaaGreatShelf
import Derived.Deep.RegionHeld3
import Derived.Deep.QuietTactic
import Derived.BigQuiet
import Derived.Deep.DeepCutAuto
section
namespace Go.Proofs.YtnkhdpenmekhdaaGreat.Digit
open Go.RowKit

set_option maxHeartbeats 400000 in
theorem rpad_calls (n width : Int) (h1 : -9223372036854775808 ≤ n) (h2 : n ≤ 9223372036854775807) (w : World) :
    Calls Tryz.prog 63 #[.int .i64 n, .int .i64 width] w fun e w' => e = .returned (.string ⟨(padI n width).toArray⟩) ∧ w = w' := by
  by_cases hn : n < 0
  · have H := Lib.hid (padI_none (n := n) (width := width) (.inl hn))
    go_enter Tryz.func63, Tryz.ntmps63
    go_wp2
    go_ret
    exact ⟨ret_string (by rw [H.out]), rfl⟩
  · by_cases hw : width < 0
    · have H := Lib.hid (padI_none (n := n) (width := width) (.inr (.inl hw)))
      go_enter Tryz.func63, Tryz.ntmps63
      go_wp2
      go_ret
      exact ⟨ret_string (by rw [H.out]), rfl⟩
    · by_cases hv : 20 < width
      · have H := Lib.hid (padI_none (n := n) (width := width) (.inr (.inr hv)))
        go_enter Tryz.func63, Tryz.ntmps63
        go_wp2
        go_ret
        exact ⟨ret_string (by rw [H.out]), rfl⟩
      · have H := Lib.hid (padI_some (n := n) (width := width) (by omega))
        have L := dec_len h1 h2
        obtain ⟨m, rfl⟩ : ∃ m : Nat, width = m := ⟨width.toNat, by omega⟩
        go_enter Tryz.func63, Tryz.ntmps63
        go_wp2_with (go_at_call 76; refine (rput_calls _ (by omega) (by omega) _).mono ?_; rintro e w' ⟨rfl, rfl⟩)
        go_loop [5] (fun s => ∃ l : List UInt8, PadAt (dec n) l m ∧ l.length ≤ 20 ∧ s = .string ⟨l.toArray⟩) (fun s => 20 - lenOf s)
        case atStart => exact ⟨_, pad_start _ _, L, rfl⟩
        case round =>
          obtain ⟨l, hp, hl, rfl⟩ := hrel
          by_cases hlt : l.length < m
          · have hp' := pad_next hp hlt
            go_wp2_with fail
            go_round
            case rel => exact ⟨48 :: l, hp', by simp; omega, string_cons _ _⟩
            case measure => rw [string_cons]; simp only [lenOf, size_mk, List.length_cons]; omega
          · have he := Lib.hid (pad_done hp hlt)
            go_wp2_with fail
            go_ret
            exact ⟨ret_string (by rw [H.out, he.out]; rfl), rfl⟩

end Go.Proofs.YtnkhdpenmekhdaaGreat.Digit
end

section
namespace Go.Proofs.YtnkhdpenmekhdaaGreat.Digit
open Go.RowKit

theorem repeat_one (c : UInt8) (k : Nat) : Lib.repeatL [c] k = List.replicate k c := by
  induction k with
  | zero => rfl
  | succ k ih => rw [Lib.repeatL, ih]; rfl
theorem rep_calls (c : Int) (h0 : 0 ≤ c) (h1 : c ≤ 20) (w : World) :
    Calls Tryz.prog 93 #[.string ⟨#[48]⟩, .int .i64 c] w fun e w' => e = .returned (.string ⟨(List.replicate c.toNat 48).toArray⟩) ∧ Below w.heap.size w w' := by
  obtain ⟨k, rfl⟩ : ∃ k : Nat, c = k := ⟨c.toNat, by omega⟩
  have h := Tryz.strings_Repeat ⟨#[48]⟩ k w (by omega) (by show 1 * k ≤ _; omega)
  rw [repeat_one] at h
  exact h

set_option maxHeartbeats 400000 in
theorem pad_calls (n width : Int) (h1 : -9223372036854775808 ≤ n) (h2 : n ≤ 9223372036854775807) (w : World) :
    Calls Tryz.prog 87 #[.int .i64 n, .int .i64 width] w fun e w' => e = .returned (.string ⟨(padI n width).toArray⟩) ∧ Below w.heap.size w w' := by
  by_cases hn : n < 0
  · have H := Lib.hid (padI_none (n := n) (width := width) (.inl hn))
    go_enter Tryz.func87, Tryz.ntmps87
    go_wp2_with fail
    go_ret
    exact ⟨ret_string (by rw [H.out]), Below.refl _ _⟩
  · by_cases hw : width < 0
    · have H := Lib.hid (padI_none (n := n) (width := width) (.inr (.inl hw)))
      go_enter Tryz.func87, Tryz.ntmps87
      go_wp2_with fail
      go_ret
      exact ⟨ret_string (by rw [H.out]), Below.refl _ _⟩
    · by_cases hv : 20 < width
      · have H := Lib.hid (padI_none (n := n) (width := width) (.inr (.inr hv)))
        go_enter Tryz.func87, Tryz.ntmps87
        go_wp2_with fail
        go_ret
        exact ⟨ret_string (by rw [H.out]), Below.refl _ _⟩
      · have H := Lib.hid (padI_some (n := n) (width := width) (by omega))
        have L := dec_len h1 h2
        obtain ⟨m, rfl⟩ : ∃ m : Nat, width = m := ⟨width.toNat, by omega⟩
        go_enter Tryz.func87, Tryz.ntmps87
        go_wp2_with (first | (go_at_call 91; refine (put_calls _ (by omega) (by omega) _).mono ?_; rintro e w' ⟨rfl, hb⟩) | (go_at_call 93; refine (rep_calls _ (by omega) (by omega) _).mono ?_; rintro e w' ⟨rfl, hb2⟩))
        go_ret
        exact ⟨ret_string (by rw [H.out, bytes_add, padL, show (max 0 ((m : Int) - (dec n).length)).toNat = (m : Int).toNat - (dec n).length by omega, Array.toList_replicate]), hb.trans (hb2.mono hb.size)⟩

end Go.Proofs.YtnkhdpenmekhdaaGreat.Digit
end

section
namespace Go.Proofs.YtnkhdpenmekhdaaGreat.Digit
open Go.RowKit

def RdAt (s : ByteArray) (w : World) (good : Bool) (a' : Act) (w' : World) : Prop :=
  ∃ (k : Nat) (N K : Int) (u6 u7 u8 u9 u10 u11 u12 u13 u14 u15 u16 u17 u18 u19 u20 u21 u22 u23 : Value),
    a' = { tmps := #[.string s, undef, .int .i64 0, .int .i64 0, .int .i64 N, .int .i64 K, u6, u7, u8, u9, u10, u11, u12, u13, u14, u15, u16, u17, u18, u19, u20, u21, u22, u23, undef, undef, undef, undef, undef, undef, undef, undef, undef], defers := [] } ∧
    K = k ∧ k ≤ s.size ∧ (good = true → N = scan 0 (s.data.toList.take k)) ∧ 0 ≤ N ∧ N ≤ 20000000000000 ∧ w' = w

theorem byte_sub {c : Int} (h : 48 ≤ c) (h1 : c ≤ 57) : IntKind.u8.wrap (c - 48) = c - 48 := IntWalk.u8_in _ (by omega)

set_option maxRecDepth 100000 in
set_option maxHeartbeats 1000000 in
theorem read_some (s : ByteArray) (hs : s.size ≤ 100000) (t : Int) (ht : IsTick s.data.toList t) (w : World) :
    Calls Tryz.prog 85 #[.string s] w fun e w' => e = .returned (.tuple #[.int .i64 t, .int .i64 0]) ∧ Below w.heap.size w w' := by
  have HT := Lib.hid ht
  have hpos : 0 < s.size := tick_pos ht
  have hdig : ∀ k (h : k < s.size), 48 ≤ (s[k].toNat : Int) ∧ (s[k].toNat : Int) ≤ 57 := fun k h => by
    have := tick_digit ht s[k] (by show s.data[k] ∈ _; simp); omega
  have HG := Lib.hid hdig
  obtain ⟨t0, t1, hd⟩ := ht
  clear hdig hd
  go_enter Tryz.func85, Tryz.ntmps85
  go_wp2
  refine wp_scope_jumps 0 (RdAt s w true) (fun a' _ => s.size - (intOf (a'.tmps.getD 5 undef)).toNat) rfl ?_ ?_
  · go_wp2_with fail
    go_step3
    obtain ⟨d0, d1⟩ := HG.out 0 hpos
    have HS := Lib.hid (scan_snoc s 0 hpos)
    have m1 := tick_part HT.out 1
    go_wp2_with fail
    go_step3
    exact ⟨rfl, 1, _, _, _, _, _, _, _, _, _, _, _, _, _, _, _, _, _, _, _, _, rfl, rfl, by omega, fun _ => by rw [HS.out]; simp [scan], by omega, by omega, rfl⟩
  · rintro a' w' ⟨k, N, K, u6, u7, u8, u9, u10, u11, u12, u13, u14, u15, u16, u17, u18, u19, u20, u21, u22, u23, rfl, rfl, hk, hN, n0, n1, rfl⟩
    obtain rfl := hN rfl
    obtain ⟨m0, m1⟩ := tick_part HT.out k
    by_cases hlt : k < s.size
    · have HS := Lib.hid (scan_snoc s k hlt)
      obtain ⟨d0, d1⟩ := HG.out k hlt
      go_wp2_with fail
      go_step3
      refine ⟨rfl, ⟨k + 1, _, _, _, _, _, _, _, _, _, _, _, _, _, _, _, _, _, _, _, _, rfl, by omega, by omega, fun _ => by rw [HS.out]; omega, by omega, by omega, rfl⟩, ?_⟩
      simp [intOf]; omega
    · have he : s.data.toList.take k = s.data.toList := List.take_of_length_le (by rw [size_list]; omega)
      rw [he, (tick_scan HT.out).1]
      have hx : (dec t == s.toList) = true := by rw [HT.out.2.2, ByteArray.toList_eq]; simp
      clear he
      go_wp2_with (go_at_call 91; refine (put_calls _ (by omega) (by omega) _).mono ?_; rintro e w' ⟨rfl, hb⟩)
      simp only [Exit.jump]
      go_ret2
      exact ⟨rfl, hb⟩

theorem u8_bd (x : Int) : 0 ≤ IntKind.u8.wrap x ∧ IntKind.u8.wrap x < 256 := by
  have e : IntKind.u8.wrap x = x % 256 := rfl
  rw [e]; omega

set_option maxRecDepth 100000 in
set_option maxHeartbeats 1000000 in
theorem read_none (s : ByteArray) (hs : s.size ≤ 100000) (ht : ¬ ∃ t, IsTick s.data.toList t) (w : World) :
    Calls Tryz.prog 85 #[.string s] w fun e w' => e = .returned (.tuple #[.int .i64 0, .int .i64 3]) ∧ Below w.heap.size w w' := by
  have HT := Lib.hid ht; clear ht
  have hno : ∀ n : Int, 0 ≤ n → n ≤ 1099511627776 → (dec n == s.toList) = false := fun n h0 h1 => by
    rw [beq_eq_false_iff_ne]
    exact fun h => HT.out ⟨n, h0, h1, by rw [h, ByteArray.toList_eq]⟩
  have HN := Lib.hid hno; clear hno
  go_enter Tryz.func85, Tryz.ntmps85
  go_wp2
  refine wp_scope_jumps 0 (RdAt s w false) (fun a' _ => s.size - (intOf (a'.tmps.getD 5 undef)).toNat) rfl ?_ ?_
  · go_wp2_with fail
    go_step3
    by_cases hpos : 0 < s.size
    · obtain ⟨d0, d1⟩ := u8_bd ((s[0].toNat : Int) - 48)
      go_wp2_with fail
      go_step3
      exact ⟨rfl, 1, _, _, _, _, _, _, _, _, _, _, _, _, _, _, _, _, _, _, _, _, rfl, rfl, by omega, (fun h => by cases h), by omega, by omega, rfl⟩
    · have hx := HN.out 0 (by omega) (by omega)
      go_wp2_with (go_at_call 91; refine (put_calls _ (by omega) (by omega) _).mono ?_; rintro e w' ⟨rfl, hb⟩)
      simp only [Exit.jump]
      go_ret2
      exact ⟨rfl, hb⟩
  · rintro a' w' ⟨k, N, K, u6, u7, u8, u9, u10, u11, u12, u13, u14, u15, u16, u17, u18, u19, u20, u21, u22, u23, rfl, rfl, hk, -, n0, n1, rfl⟩
    by_cases hlt : k < s.size
    · by_cases hn : N ≤ 1099511627776
      · obtain ⟨d0, d1⟩ := u8_bd ((s[k].toNat : Int) - 48)
        go_wp2_with fail
        go_step3
        refine ⟨rfl, ⟨k + 1, _, _, _, _, _, _, _, _, _, _, _, _, _, _, _, _, _, _, _, _, rfl, by omega, by omega, (fun h => by cases h), by omega, by omega, rfl⟩, ?_⟩
        simp [intOf]; omega
      · go_wp2_with fail
        simp only [Exit.jump]
        go_ret2
        exact ⟨rfl, Below.refl _ _⟩
    · by_cases hn : N ≤ 1099511627776
      · have hx := HN.out N n0 hn
        go_wp2_with (go_at_call 91; refine (put_calls _ (by omega) (by omega) _).mono ?_; rintro e w' ⟨rfl, hb⟩)
        simp only [Exit.jump]
        go_ret2
        exact ⟨rfl, hb⟩
      · go_wp2_with fail
        simp only [Exit.jump]
        go_ret2
        exact ⟨rfl, Below.refl _ _⟩

theorem read_calls (s : ByteArray) (hs : s.size ≤ 100000) (w : World) :
    Calls Tryz.prog 85 #[.string s] w fun e w' => e = .returned (.tuple #[.int .i64 (rdV s.data.toList), .int .i64 (rdC s.data.toList)]) ∧ Below w.heap.size w w' := by
  by_cases h : ∃ t, IsTick s.data.toList t
  · obtain ⟨t, ht⟩ := h
    obtain ⟨h1, h2⟩ := rd_some ht
    rw [h1, h2]
    exact read_some s hs t ht w
  · obtain ⟨h1, h2⟩ := rd_none h
    rw [h1, h2]
    exact read_none s hs h w

end Go.Proofs.YtnkhdpenmekhdaaGreat.Digit
end

section
namespace Go.Proofs.YtnkhdpenmekhdaaGreat.Digit
open Go.RowKit

theorem rhex_calls (c : Int) (h0 : 0 ≤ c) (h1 : c < 256) (w : World) :
    Calls Tryz.prog 64 #[.int .u8 c] w fun e w' => e = .returned (.string ⟨(hexS c.toNat).toArray⟩) ∧ w = w' := by
  go_enter Tryz.func64, Tryz.ntmps64
  go_wp2_with (go_at_call 77; refine (rdigit_calls _ (by omega) (by omega) _).mono ?_; rintro e w' ⟨rfl, rfl⟩)
  go_ret
  exact ⟨ret_string (by rw [show (c / 16).toNat = c.toNat / 16 by omega, show (c % 16).toNat = c.toNat % 16 by omega]; exact bytes_add [_] [_]), rfl⟩

end Go.Proofs.YtnkhdpenmekhdaaGreat.Digit
end

section
namespace Go.Proofs.YtnkhdpenmekhdaaGreat.Digit
open Go.RowKit

/-- string([]byte{c}) -/
theorem run_byte_string {P : Program} (W : World) (c : Int) (src dst e : TypeId) (hs : P.underlying src = some (.slice e)) (he : P.underlying e = some (.int .u8)) (hd : P.underlying dst = some .string) :
    (convert src dst (.slice (some ⟨W.heap.size, 0, none⟩) 1 1)).run P (W.alloc (.cells #[.int .u8 c] e)) = .ok (.string ⟨#[c.toNat.toUInt8]⟩) (W.alloc (.cells #[.int .u8 c] e)) := by
  rw [run_convert_bytes_string _ src dst e _ 1 1 hs he hd]
  have hl := run_loadCells_list (P := P) (W.alloc (.cells #[.int .u8 c] e)) ⟨W.heap.size, 0, none⟩ ([c].map (Value.int .u8)) (fun j v hj => by
    match j, hj with
    | 0, hj => simp at hj; subst hj; rw [show (⟨W.heap.size, 0, none⟩ : Addr).add 0 = ⟨W.heap.size, 0, none⟩ from rfl]; simp
    | j + 1, hj => simp at hj)
  rw [run_bytesToString _ _ 1 1 [c] hl]
  rfl

theorem run_byte_at {P : Program} (W : World) (b : Nat) (c : Int) (src dst e : TypeId) (hs : P.underlying src = some (.slice e)) (he : P.underlying e = some (.int .u8)) (hd : P.underlying dst = some .string)
    (hc : W.cell? ⟨b, 0, none⟩ = some (.int .u8 c)) :
    (convert src dst (.slice (some ⟨b, 0, none⟩) 1 1)).run P W = .ok (.string ⟨#[c.toNat.toUInt8]⟩) W := by
  rw [run_convert_bytes_string _ src dst e _ 1 1 hs he hd]
  have hl := run_loadCells_list (P := P) W ⟨b, 0, none⟩ ([c].map (Value.int .u8)) (fun j v hj => by
    match j, hj with
    | 0, hj => simp at hj; subst hj; exact hc
    | j + 1, hj => simp at hj)
  rw [run_bytesToString _ _ 1 1 [c] hl]
  rfl

theorem ret_u8 {a b : Int} (h : a = b) : Ending.returned (.int .u8 a) = .returned (.int .u8 b) := by rw [h]

theorem ret_text {a b : List UInt8} {c d : Int} (h : a = b) (g : c = d) : Ending.returned (.tuple #[.string ⟨a.toArray⟩, .int .i64 c]) = .returned (.tuple #[.string ⟨b.toArray⟩, .int .i64 d]) := by rw [h, g]

theorem rsign_calls (c : Int) (h0 : 0 ≤ c) (h1 : c < 256) (w : World) :
    Calls Tryz.prog 78 #[.int .u8 c] w fun e w' => e = .returned (.string ⟨(sgn c.toNat).toArray⟩) ∧ Below w.heap.size w w' := by
  by_cases e1 : c = 92
  · subst e1
    go_enter Tryz.func78, Tryz.ntmps78
    go_wp2_with fail
    go_ret
    exact ⟨rfl, Below.refl _ _⟩
  by_cases e2 : c = 10
  · subst e2
    go_enter Tryz.func78, Tryz.ntmps78
    go_wp2_with fail
    go_ret
    exact ⟨rfl, Below.refl _ _⟩
  by_cases e3 : c = 13
  · subst e3
    go_enter Tryz.func78, Tryz.ntmps78
    go_wp2_with fail
    go_ret
    exact ⟨rfl, Below.refl _ _⟩
  by_cases e4 : c = 9
  · subst e4
    go_enter Tryz.func78, Tryz.ntmps78
    go_wp2_with fail
    go_ret
    exact ⟨rfl, Below.refl _ _⟩
  have H := Lib.hid (sgn_other (n := c.toNat) (by omega) (by omega) (by omega) (by omega))
  by_cases e5 : c < 32
  · go_enter Tryz.func78, Tryz.ntmps78
    go_wp2_with (go_at_call 64; refine (rhex_calls _ (by omega) (by omega) _).mono ?_; rintro e w' ⟨rfl, rfl⟩)
    go_ret
    exact ⟨ret_string (by rw [H.out, if_pos (by omega)]; exact bytes_add [92, 120] _), Below.refl _ _⟩
  by_cases e6 : 126 < c
  · go_enter Tryz.func78, Tryz.ntmps78
    go_wp2_with (go_at_call 64; refine (rhex_calls _ (by omega) (by omega) _).mono ?_; rintro e w' ⟨rfl, rfl⟩)
    go_ret
    exact ⟨ret_string (by rw [H.out, if_pos (by omega)]; exact bytes_add [92, 120] _), Below.refl _ _⟩
  · have hcv := fun (W : World) => run_byte_string W c 117 9 5 Tryz.underlying117 Tryz.underlying5 Tryz.underlying9
    go_enter Tryz.func78, Tryz.ntmps78
    go_wp2_with fail
    go_ret
    exact ⟨ret_string (by rw [H.out, if_neg (by omega)]), (Below.refl _ _).alloc (Nat.le_refl _) _⟩

set_option maxHeartbeats 400000 in
theorem rshow_calls (s : ByteArray) (hs : s.size ≤ 100000) (w : World) :
    Calls Tryz.prog 65 #[.string s] w fun e w' => e = .returned (.string ⟨(shw s.data.toList).toArray⟩) ∧ Below w.heap.size w w' := by
  go_enter Tryz.func65, Tryz.ntmps65
  go_wp2
  go_loopw [3, 4] (fun o i wr => ∃ k : Nat, k ≤ s.size ∧ i = .int .i64 k ∧ o = .string ⟨(shw (s.data.toList.take k)).toArray⟩ ∧ Below w.heap.size w wr) (fun _ i _ => s.size - (intOf i).toNat)
  case atStart => exact ⟨0, Nat.zero_le _, rfl, rfl, Below.refl _ _⟩
  case round =>
    obtain ⟨k, hk, rfl, rfl, hb⟩ := hrel
    have hl := shw_len (s.data.toList.take k)
    rw [List.length_take, size_list, Nat.min_eq_left hk] at hl
    by_cases hlt : k < s.size
    · have HS := Lib.hid (shw_snoc s k hlt)
      have hl2 := (sgn_len s[k].toNat).2
      have hc : (s[k].toNat : Int) < 256 := by have := s[k].toNat_lt; omega
      generalize shw (s.data.toList.take k) = o at hl HS
      go_wp2_with (go_at_call 78; refine (rsign_calls _ (by omega) (by omega) _).mono ?_; rintro e w' ⟨rfl, hb1⟩)
      go_roundw
      case rel => exact ⟨k + 1, by omega, by go_num, by rw [HS.out, ← bytes_add], hb.trans (hb1.mono hb.size)⟩
      case measure => simp [intOf]; omega
    · go_wp2_with fail
      go_ret
      exact ⟨ret_string (by rw [List.take_of_length_le (by rw [size_list]; omega)]), hb⟩

end Go.Proofs.YtnkhdpenmekhdaaGreat.Digit
end

section
namespace Go.Proofs.YtnkhdpenmekhdaaGreat.Digit
open Go.RowKit

theorem index_calls (c : Int) (w : World) :
    Calls Tryz.prog 84 #[.string ⟨#[48, 49, 50, 51, 52, 53, 54, 55, 56, 57, 97, 98, 99, 100, 101, 102]⟩, .int .u8 c] w fun e w' => e = .returned (.int .i64 (Lib.indexByte hexTab c.toNat.toUInt8)) ∧ w = w' :=
  (Tryz.strings_IndexByte _ c w).mono fun _ _ ⟨h1, h2⟩ => ⟨h1, h2.symm⟩

theorem two_list (s : ByteArray) (h : s.size = 2) : s.data.toList = [s[0], s[1]] := by
  have hl : s.data.toList.length = 2 := h
  match hs : s.data.toList, hl with
  | [a, b], _ =>
    have e0 : s[0] = s.data.toList[0] := rfl
    have e1 : s[1] = s.data.toList[1] := rfl
    simp [e0, e1, hs]

theorem or_all : ∀ a : Fin 16, ∀ b : Fin 16, bits BinOp.or IntKind.i64 ((a.val : Int) * 16) (b.val : Int) = (a.val : Int) * 16 + (b.val : Int) := by decide +kernel
theorem or_16 {x y : Int} (h0 : 0 ≤ x) (h1 : x < 16) (g0 : 0 ≤ y) (g1 : y < 16) : bits BinOp.or IntKind.i64 (x * 16) y = x * 16 + y := by
  have h := or_all ⟨x.toNat, by omega⟩ ⟨y.toNat, by omega⟩
  simp only [Int.toNat_of_nonneg h0, Int.toNat_of_nonneg g0] at h
  exact h

theorem u8_back (c : UInt8) : ((c.toNat : Int)).toNat.toUInt8 = c := by simp

set_option maxHeartbeats 400000 in
theorem readhex_calls (s : ByteArray) (w : World) :
    Calls Tryz.prog 74 #[.string s] w fun e w' => e = .returned (.tuple #[.int .u8 (rhV s.data.toList), .int .i64 (rhC s.data.toList)]) ∧ w = w' := by
  by_cases h2 : s.size = 2
  · have p0 : 0 < s.size := by omega
    have p1 : 1 < s.size := by omega
    have hl : s.data.toList = [s[0], s[1]] := two_list s h2
    rcases idx_spec s[0] with ⟨i0, i1⟩ | ⟨i0, i1, i2⟩
    · have H := Lib.hid (rh_none (s := s.data.toList) (by rw [hl]; rintro ⟨c, hc, hh⟩; exact i1 (c / 16) (by omega) (List.cons.inj hh).1))
      have hx : Lib.indexByte hexTab s[0] < 0 := by omega
      clear i0 i1 hl
      go_enter Tryz.func74, Tryz.ntmps74
      go_wp2_with (go_at_call 84; refine (index_calls _ _).mono ?_; rintro e w' ⟨rfl, rfl⟩)
      go_ret2
      exact ⟨ret_byte H.out.1.symm H.out.2.symm, rfl⟩
    · rcases idx_spec s[1] with ⟨j0, j1⟩ | ⟨j0, j1, j2⟩
      · have H := Lib.hid (rh_none (s := s.data.toList) (by rw [hl]; rintro ⟨c, hc, hh⟩; exact j1 (c % 16) (by omega) (List.cons.inj (List.cons.inj hh).2).1))
        have hx : Lib.indexByte hexTab s[1] < 0 := by omega
        clear i2 j0 j1 hl
        go_enter Tryz.func74, Tryz.ntmps74
        go_wp2_with (go_at_call 84; refine (index_calls _ _).mono ?_; rintro e w' ⟨rfl, rfl⟩)
        go_ret2
        exact ⟨ret_byte H.out.1.symm H.out.2.symm, rfl⟩
      · have hh : hexS (16 * (Lib.indexByte hexTab s[0]).toNat + (Lib.indexByte hexTab s[1]).toNat) = s.data.toList := by
          rw [hl, hexS]
          rw [show (16 * (Lib.indexByte hexTab s[0]).toNat + (Lib.indexByte hexTab s[1]).toNat) / 16 = (Lib.indexByte hexTab s[0]).toNat by omega, show (16 * (Lib.indexByte hexTab s[0]).toNat + (Lib.indexByte hexTab s[1]).toNat) % 16 = (Lib.indexByte hexTab s[1]).toNat by omega, i2, j2]
        have G := rh_some (c := 16 * (Lib.indexByte hexTab s[0]).toNat + (Lib.indexByte hexTab s[1]).toNat) (by omega)
        rw [hh] at G
        have H := Lib.hid G
        clear G i2 j2 hl hh
        go_enter Tryz.func74, Tryz.ntmps74
        go_wp2_with (go_at_call 84; refine (index_calls _ _).mono ?_; rintro e w' ⟨rfl, rfl⟩)
        go_ret2
        exact ⟨ret_byte (by rw [H.out.1, or_16 i0 i1 j0 j1]; omega) H.out.2.symm, rfl⟩
  · have H := Lib.hid (rh_none (s := s.data.toList) (by rintro ⟨c, hc, hh⟩; have := congrArg List.length hh; rw [size_list] at this; simp [hexS] at this; omega))
    go_enter Tryz.func74, Tryz.ntmps74
    go_wp2_with fail
    go_ret2
    exact ⟨ret_byte H.out.1.symm H.out.2.symm, rfl⟩

end Go.Proofs.YtnkhdpenmekhdaaGreat.Digit
end

section
namespace Go.Proofs.YtnkhdpenmekhdaaGreat.Brk
open Go.RowKit Go.Proofs.YtnkhdpenmekhdaaGreat.Digit

theorem trim_calls (s p : ByteArray) (w : World) :
    Calls Tryz.prog 86 #[.string s, .string p] w fun e w' => e = .returned (.string ⟨(Lib.trimPrefix s.data.toList p.data.toList).toArray⟩) ∧ w = w' :=
  (Tryz.strings_TrimPrefix s p w).mono fun _ _ ⟨h1, h2⟩ => ⟨h1, h2.symm⟩

theorem rdV_bd (l : List UInt8) : 0 ≤ rdV l ∧ rdV l ≤ 1099511627776 := by
  by_cases h : ∃ n, IsTick l n
  · obtain ⟨n, h⟩ := h
    rw [(rd_some h).1]; exact ⟨h.1, h.2.1⟩
  · rw [(rd_none h).1]; omega
theorem hexd_zero {n : Nat} (h : n < 16) (e : hexd n = 48) : n = 0 := hexd_inj h (by omega) (e.trans (by decide))
theorem trim_two {n : Nat} (h1 : 1 ≤ n) (h2 : n ≤ 99) : rdV (Lib.trimPrefix (two n) [48]) = n := by
  refine (rd_some ⟨by omega, by omega, ?_⟩).1
  by_cases h : n < 10
  · have e : two n = [48, hexd n] := by rw [two, show n / 10 = 0 by omega, show n % 10 = n by omega]; rfl
    rw [e, dec_lt (by omega) (by omega)]
    rfl
  · have e : dec (n : Int) = two n := by
      rw [dec_ge (by omega), dec_lt (by omega) (by omega), two, show ((n : Int) / 10).toNat = n / 10 by omega, show ((n : Int) % 10).toNat = n % 10 by omega]; rfl
    rw [e, Lib.trimPrefix, if_neg]
    intro hp
    have : (48 : UInt8) = hexd (n / 10) := by
      simp [Lib.hasPrefix, two] at hp; exact hp
    have := hexd_zero (by omega) this.symm
    omega
theorem tick_two {l : List UInt8} (hl : l.length ≤ 2) : (padI (rdV (Lib.trimPrefix l [48])) 2 = l → rdV (Lib.trimPrefix l [48]) = tk l) ∧ (padI (rdV (Lib.trimPrefix l [48])) 2 ≠ l → tk l = 0) := by
  obtain ⟨r0, r1⟩ := rdV_bd (Lib.trimPrefix l [48])
  constructor
  · intro h
    obtain ⟨N, hN⟩ : ∃ N : Nat, rdV (Lib.trimPrefix l [48]) = N := ⟨_, (Int.toNat_of_nonneg r0).symm⟩
    rw [hN] at h ⊢
    by_cases h9 : N ≤ 99
    · rw [pad_two h9] at h
      by_cases h0 : N = 0
      · subst h0
        rw [tk_none]
        rintro ⟨n, n1, n2, e⟩
        have := two_inj n2 (by omega) (e.trans h.symm)
        omega
      · rw [← h, tk_some (by omega) h9]
    · rw [pad_long (by omega)] at h
      have := dec_long (n := N) (by omega)
      rw [h] at this
      omega
  · intro h
    refine tk_none ?_
    rintro ⟨n, n1, n2, rfl⟩
    rw [trim_two n1 n2, pad_two n2] at h
    exact h rfl

set_option maxRecDepth 100000 in
set_option maxHeartbeats 400000 in
theorem ticks_calls (s : ByteArray) (hs : s.size ≤ 2) (w : World) :
    Calls Tryz.prog 75 #[.string s] w fun e w' => e = .returned (.int .i64 (tk s.data.toList)) ∧ Below w.heap.size w w' := by
  obtain ⟨t1, t2⟩ := tick_two (l := s.data.toList) hs
  obtain ⟨r0, r1⟩ := rdV_bd (Lib.trimPrefix s.data.toList [48])
  have hz : (Lib.trimPrefix s.data.toList [48]).length ≤ 2 := by
    unfold Lib.trimPrefix
    split
    · rw [List.length_drop, size_list]; omega
    · rw [size_list]; omega
  obtain ⟨u, hu⟩ : ∃ u : ByteArray, u = ⟨(Lib.trimPrefix s.data.toList [48]).toArray⟩ := ⟨_, rfl⟩
  have hul : u.data.toList = Lib.trimPrefix s.data.toList [48] := by rw [hu]
  have hus : u.size ≤ 2 := by rw [← size_list, hul]; exact hz
  have HC := Lib.hid (fun w => (trim_calls s ⟨#[48]⟩ w))
  rw [show (⟨#[48]⟩ : ByteArray).data.toList = [48] from rfl, ← hu] at HC
  have HR := Lib.hid (read_calls u (by omega))
  rw [← hul] at t1 t2 r0 r1
  generalize rdV u.data.toList = N at *
  generalize rdC u.data.toList = C at *
  have HT1 := Lib.hid t1
  have HT2 := Lib.hid t2
  clear t1 t2 hul hu hz hus
  by_cases h : padI N 2 = s.data.toList
  · have hx : (padI N 2 == s.toList) = true := by rw [h, ByteArray.toList_eq]; simp
    have hy : (padI N 2 != s.toList) = false := by rw [bne, hx]; rfl
    have HE := Lib.hid (HT1.out h)
    clear h
    go_enter Tryz.func75, Tryz.ntmps75
    go_wp2_with (first
      | (go_at_call 86; refine (HC.out _).mono ?_; rintro e w' ⟨rfl, rfl⟩)
      | (go_at_call 85; refine (HR.out _).mono ?_; rintro e w' ⟨rfl, hb⟩)
      | (go_at_call 87; refine (pad_calls _ _ (by omega) (by omega) _).mono ?_; rintro e w' ⟨rfl, hb2⟩))
    go_ret
    exact ⟨by rw [HE.out]; rfl, hb.trans (hb2.mono hb.size)⟩
  · have hx : (padI N 2 == s.toList) = false := by rw [beq_eq_false_iff_ne, ByteArray.toList_eq]; exact h
    have hy : (padI N 2 != s.toList) = true := by rw [bne, hx]; rfl
    have HE := Lib.hid (HT2.out h)
    clear h
    go_enter Tryz.func75, Tryz.ntmps75
    go_wp2_with (first
      | (go_at_call 86; refine (HC.out _).mono ?_; rintro e w' ⟨rfl, rfl⟩)
      | (go_at_call 85; refine (HR.out _).mono ?_; rintro e w' ⟨rfl, hb⟩)
      | (go_at_call 87; refine (pad_calls _ _ (by omega) (by omega) _).mono ?_; rintro e w' ⟨rfl, hb2⟩))
    go_ret
    exact ⟨by rw [HE.out]; rfl, hb.trans (hb2.mono hb.size)⟩

/-- a step as a value of its interface -/
def stV (x : Op) : Value := if x.k = 1 then .iface 110 (.string ⟨x.s.toArray⟩) else if x.k = 2 then .iface 112 (.int .i64 x.n) else if x.k = 3 then .iface 114 (.agg #[]) else .nilIface
def oneV (r : Op × Nat) : Ending := .returned (.tuple #[stV r.1, .int .i64 r.2])

theorem cut_rest (s : ByteArray) (h : 2 ≤ s.size) : ∃ p : ByteArray, p.size ≤ 2 ∧ p.data.toList = (s.data.toList.drop 2).take 2 ∧ s.extract 2 (min 4 (s.size : Int)).toNat = p := by
  refine ⟨s.extract 2 (min 4 (s.size : Int)).toNat, ?_, ?_, rfl⟩
  · rw [ByteArray.size_extract]; omega
  · by_cases h4 : 4 ≤ s.size
    · simp [ByteArray.data_extract, show (min 4 (s.size : Int)).toNat = 4 by omega, List.extract_eq_take_drop]
    · have hl : (s.data.toList.drop 2).length = s.size - 2 := by rw [List.length_drop, size_list]
      rw [List.take_of_length_le (by omega)]
      simp [ByteArray.data_extract, show (min 4 (s.size : Int)).toNat = s.size by omega, List.extract_eq_take_drop]
      rw [List.take_of_length_le (by rw [hl]; omega)]

set_option maxRecDepth 100000 in
set_option maxHeartbeats 1000000 in
theorem escaped_calls (s : ByteArray) (h2 : 2 ≤ s.size) (hs : s.size ≤ 100000) (w : World) :
    Calls Tryz.prog 60 #[.string s] w fun e w' => e = oneV (esc s[1] (s.data.toList.drop 2)) ∧ Below w.heap.size w w' := by
  obtain ⟨p, hp, hpl, hpe⟩ := cut_rest s h2
  have e4 : ∀ n : Nat, n < 256 → ((s[1].toNat : Int) = n) → s[1] = n.toUInt8 := fun n hn h => eq_byte h
  have e5 : ∀ n : Nat, n < 256 → ¬ ((s[1].toNat : Int) = n) → s[1] ≠ n.toUInt8 := fun n hn h => ne_byte h hn
  have HE := Lib.hid e4
  have HN := Lib.hid e5
  clear e4 e5
  by_cases c1 : (s[1].toNat : Int) = 92
  · have H := Lib.hid (show esc s[1] (s.data.toList.drop 2) = (⟨1, [92], 0⟩, 2) by rw [HE.out 92 (by omega) c1]; rfl)
    go_enter Tryz.func60, Tryz.ntmps60
    go_wp2_with fail
    go_ret2
    exact ⟨by rw [H.out]; rfl, Below.refl _ _⟩
  by_cases c2 : (s[1].toNat : Int) = 114
  · have H := Lib.hid (show esc s[1] (s.data.toList.drop 2) = (⟨1, [13], 0⟩, 2) by rw [HE.out 114 (by omega) c2]; rfl)
    go_enter Tryz.func60, Tryz.ntmps60
    go_wp2_with fail
    go_ret2
    exact ⟨by rw [H.out]; rfl, Below.refl _ _⟩
  by_cases c3 : (s[1].toNat : Int) = 110
  · have H := Lib.hid (show esc s[1] (s.data.toList.drop 2) = (⟨1, [10], 0⟩, 2) by rw [HE.out 110 (by omega) c3]; rfl)
    go_enter Tryz.func60, Tryz.ntmps60
    go_wp2_with fail
    go_ret2
    exact ⟨by rw [H.out]; rfl, Below.refl _ _⟩
  by_cases c4 : (s[1].toNat : Int) = 116
  · have H := Lib.hid (show esc s[1] (s.data.toList.drop 2) = (⟨1, [9], 0⟩, 2) by rw [HE.out 116 (by omega) c4]; rfl)
    go_enter Tryz.func60, Tryz.ntmps60
    go_wp2_with fail
    go_ret2
    exact ⟨by rw [H.out]; rfl, Below.refl _ _⟩
  by_cases c5 : (s[1].toNat : Int) = 100
  · have H := Lib.hid (show esc s[1] (s.data.toList.drop 2) = (⟨2, [], 1⟩, 2) by rw [HE.out 100 (by omega) c5]; rfl)
    go_enter Tryz.func60, Tryz.ntmps60
    go_wp2_with fail
    go_ret2
    exact ⟨by rw [H.out]; rfl, Below.refl _ _⟩
  by_cases c6 : (s[1].toNat : Int) = 122
  · have H := Lib.hid (show esc s[1] (s.data.toList.drop 2) = (⟨3, [], 0⟩, 2) by rw [HE.out 122 (by omega) c6]; rfl)
    go_enter Tryz.func60, Tryz.ntmps60
    go_wp2_with fail
    go_ret2
    exact ⟨by rw [H.out]; rfl, Below.refl _ _⟩
  by_cases c7 : (s[1].toNat : Int) = 120
  · have H0 : esc s[1] (s.data.toList.drop 2) = if rhC p.data.toList = 0 then (⟨1, [(rhV p.data.toList).toNat.toUInt8], 0⟩, 4) else no := by rw [HE.out 120 (by omega) c7, hpl]; rfl
    have HR := Lib.hid (readhex_calls p)
    obtain ⟨v0, v1⟩ := rhV_bd p.data.toList
    generalize rhV p.data.toList = v at *
    generalize rhC p.data.toList = c at *
    by_cases hc : c = 0
    · have H := Lib.hid (H0.trans (if_pos hc))
      subst hc
      have hcv := fun (W : World) => run_byte_string W v 117 110 5 Tryz.underlying117 Tryz.underlying5 Tryz.underlying110
      clear H0 hpl
      go_enter Tryz.func60, Tryz.ntmps60
      go_wp2_with (go_at_call 74; refine (HR.out _).mono ?_; rintro e w' ⟨rfl, rfl⟩)
      go_ret2
      exact ⟨by rw [H.out]; rfl, (Below.refl _ _).alloc (Nat.le_refl _) _⟩
    · have H := Lib.hid (H0.trans (if_neg hc))
      have b : (c == 0) = false := by simpa using hc
      clear H0 hpl hc
      go_enter Tryz.func60, Tryz.ntmps60
      go_wp2_with (go_at_call 74; refine (HR.out _).mono ?_; rintro e w' ⟨rfl, rfl⟩)
      go_ret2
      exact ⟨by rw [H.out]; rfl, Below.refl _ _⟩
  by_cases c8 : (s[1].toNat : Int) = 119
  · have H0 : esc s[1] (s.data.toList.drop 2) = if tk p.data.toList = 0 then no else (⟨2, [], tk p.data.toList⟩, 4) := by rw [HE.out 119 (by omega) c8, hpl]; rfl
    have HR := Lib.hid (ticks_calls p hp)
    have hk : tk p.data.toList = 0 ∨ tk p.data.toList ≤ 99 := by
      by_cases h : tk p.data.toList = 0
      · exact .inl h
      · exact .inr (tk_is h).2.1
    generalize tk p.data.toList = v at *
    by_cases hc : v = 0
    · have H := Lib.hid (H0.trans (if_pos hc))
      subst hc
      clear H0 hpl hk
      go_enter Tryz.func60, Tryz.ntmps60
      go_wp2_with (go_at_call 75; refine (HR.out _).mono ?_; rintro e w' ⟨rfl, hb⟩)
      go_ret2
      exact ⟨by rw [H.out]; rfl, hb⟩
    · have H := Lib.hid (H0.trans (if_neg hc))
      have b : (0 : Int) < (v : Int) := by omega
      clear H0 hpl
      go_enter Tryz.func60, Tryz.ntmps60
      go_wp2_with (go_at_call 75; refine (HR.out _).mono ?_; rintro e w' ⟨rfl, hb⟩)
      go_ret2
      exact ⟨by rw [H.out]; rfl, hb⟩
  · have H := Lib.hid (show esc s[1] (s.data.toList.drop 2) = no by
      unfold esc
      rw [if_neg (show ¬ s[1] = 92 from HN.out 92 (by omega) c1), if_neg (show ¬ s[1] = 114 from HN.out 114 (by omega) c2), if_neg (show ¬ s[1] = 110 from HN.out 110 (by omega) c3), if_neg (show ¬ s[1] = 116 from HN.out 116 (by omega) c4), if_neg (show ¬ s[1] = 100 from HN.out 100 (by omega) c5), if_neg (show ¬ s[1] = 122 from HN.out 122 (by omega) c6), if_neg (show ¬ s[1] = 120 from HN.out 120 (by omega) c7), if_neg (show ¬ s[1] = 119 from HN.out 119 (by omega) c8)])
    go_enter Tryz.func60, Tryz.ntmps60
    go_wp2_with fail
    go_ret2
    exact ⟨by rw [H.out]; rfl, Below.refl _ _⟩

set_option maxRecDepth 100000 in
theorem escaped_short (s : ByteArray) (h2 : s.size < 2) (w : World) :
    Calls Tryz.prog 60 #[.string s] w fun e w' => e = .returned (.tuple #[.nilIface, .int .i64 0]) ∧ w = w' := by
  have q : (s.size : Int) < 2 := by omega
  go_enter Tryz.func60, Tryz.ntmps60
  go_wp2_with fail
  go_ret2
  exact ⟨rfl, rfl⟩
theorem list_three (s : ByteArray) (h : 1 < s.size) : s.data.toList = s[0] :: s[1] :: s.data.toList.drop 2 := by
  obtain ⟨u, e⟩ := list_two s h
  rw [e]; rfl

set_option maxRecDepth 100000 in
set_option maxHeartbeats 1000000 in
theorem first_calls (s : ByteArray) (h1 : 0 < s.size) (hs : s.size ≤ 100000) (w : World) :
    Calls Tryz.prog 46 #[.string s] w fun e w' => e = oneV (one s.data.toList) ∧ Below w.heap.size w w' := by
  by_cases c0 : (s[0].toNat : Int) = 92
  · have e0 : s[0] = 92 := eq_byte (n := 92) c0
    by_cases hz : s.size = 1
    · have H := Lib.hid (show one s.data.toList = no by
        obtain ⟨t, e⟩ := list_one s h1
        have hl := congrArg List.length e
        rw [size_list, List.length_cons] at hl
        obtain rfl : t = [] := List.eq_nil_of_length_eq_zero (by omega)
        rw [e, e0, one_lone])
      go_enter Tryz.func46, Tryz.ntmps46
      go_wp2_with (go_at_call 60; refine (escaped_short s (by omega) _).mono ?_; rintro e w' ⟨rfl, rfl⟩)
      go_ret2
      exact ⟨by rw [H.out]; rfl, Below.refl _ _⟩
    · have H := Lib.hid (show one s.data.toList = esc s[1] (s.data.toList.drop 2) by rw [list_three s (by omega), e0, one_esc]; rfl)
      have HC := Lib.hid (escaped_calls s (by omega) hs)
      unfold oneV at HC
      generalize esc s[1] (s.data.toList.drop 2) = r at *
      clear e0
      go_enter Tryz.func46, Tryz.ntmps46
      go_wp2_with (go_at_call 60; refine (HC.out _).mono ?_; rintro e w' ⟨rfl, hb⟩)
      go_ret2
      exact ⟨by rw [H.out]; rfl, hb⟩
  · have e0 : s[0] ≠ 92 := ne_byte (n := 92) c0 (by omega)
    obtain ⟨t, e⟩ := list_one s h1
    by_cases hc : 32 ≤ (s[0].toNat : Int) ∧ (s[0].toNat : Int) ≤ 126
    · obtain ⟨q1, q2⟩ := hc
      have H := Lib.hid (show one s.data.toList = (⟨1, [s[0]], 0⟩, 1) by rw [e]; exact one_plain t (by omega) (by omega) e0)
      have HX := Lib.hid (show s.extract 0 1 = ⟨#[s[0]]⟩ by
        apply ByteArray.ext
        apply Array.toList_inj.1
        simp [ByteArray.data_extract, List.extract_eq_take_drop, e])
      clear e0 e
      go_enter Tryz.func46, Tryz.ntmps46
      go_wp2_with fail
      go_ret2
      exact ⟨by rw [H.out, HX.out]; rfl, Below.refl _ _⟩
    · have H := Lib.hid (show one s.data.toList = no by rw [e]; exact one_bad t (fun g => hc ⟨by omega, by omega⟩) e0)
      clear e0 e
      rcases (show (s[0].toNat : Int) < 32 ∨ (32 ≤ (s[0].toNat : Int) ∧ 126 < (s[0].toNat : Int)) by omega) with q | ⟨q, q2⟩
      all_goals
        clear hc
        go_enter Tryz.func46, Tryz.ntmps46
        go_wp2_with fail
        go_ret2
        exact ⟨by rw [H.out]; rfl, Below.refl _ _⟩
end Go.Proofs.YtnkhdpenmekhdaaGreat.Brk
end

section
namespace Go.Proofs.YtnkhdpenmekhdaaGreat.Brk
open Go.RowKit Go.Proofs.YtnkhdpenmekhdaaGreat.Digit Go.Proofs.YtnkhdpenmekhdaaGreat.Own

/-- an op -/
def opV (x : Op) : Value := .agg #[.int .i64 x.k, .string ⟨x.s.toArray⟩, .int .i64 x.n]
def opC (x : Op) : Array Value := #[.int .i64 x.k, .string ⟨x.s.toArray⟩, .int .i64 x.n]
def kd (x : Op) : Int := if x.s = [] then (if x.n = 0 then 3 else if 0 < x.n then 2 else 0) else if x.n = 0 then 1 else 0
theorem Ok.kd {x : Op} (h : Ok x) : kd x = x.k := by
  obtain ⟨k, s, n⟩ := x
  rcases h with ⟨a, b, c⟩ | ⟨a, b, c⟩ | ⟨a, b, c⟩
  · simp only at a b c; subst a c; simp [Brk.kd, b]
  · simp only at a b c; subst a b; simp [Brk.kd]; omega
  · simp only at a b c; subst a b c; simp [Brk.kd]
theorem ok_kd {x : Op} (h : x.k = kd x) (h0 : x.k ≠ 0) : Ok x := by
  obtain ⟨k, s, n⟩ := x
  simp only [Brk.kd] at h h0
  by_cases hs : s = []
  · rw [if_pos hs] at h
    by_cases hn : n = 0
    · rw [if_pos hn] at h; exact .inr (.inr ⟨h, hs, hn⟩)
    · rw [if_neg hn] at h
      by_cases hp : 0 < n
      · rw [if_pos hp] at h; exact .inr (.inl ⟨h, hs, hp⟩)
      · rw [if_neg hp] at h; exact absurd h h0
  · rw [if_neg hs] at h
    by_cases hn : n = 0
    · rw [if_pos hn] at h; exact .inl ⟨h, hs, hn⟩
    · rw [if_neg hn] at h; exact absurd h h0

set_option maxRecDepth 100000 in
set_option maxHeartbeats 1000000 in
theorem kind_calls (k : Int) (s : List UInt8) (n : Int) (w : World) :
    Calls Tryz.prog 62 #[.agg #[.int .i64 k, .string ⟨s.toArray⟩, .int .i64 n]] w fun e w' => e = .returned (.int .i64 (kd ⟨k, s, n⟩)) ∧ Below w.heap.size w w' := by
  by_cases hs : s = []
  · by_cases hn : n = 0
    · have H := Lib.hid (show kd ⟨k, s, n⟩ = 3 by rw [kd, if_pos hs, if_pos hn])
      subst hs hn
      go_enter Tryz.func62, Tryz.ntmps62
      go_wp2_with fail
      go_ret
      exact ⟨by rw [H.out]; rfl, (Below.refl _ _).alloc (Nat.le_refl _) _⟩
    · by_cases hp : 0 < n
      · have H := Lib.hid (show kd ⟨k, s, n⟩ = 2 by rw [kd, if_pos hs, if_neg hn, if_pos hp])
        have b : (n == 0) = false := by simpa using hn
        subst hs
        clear hn
        go_enter Tryz.func62, Tryz.ntmps62
        go_wp2_with fail
        go_ret
        exact ⟨by rw [H.out]; rfl, (Below.refl _ _).alloc (Nat.le_refl _) _⟩
      · have H := Lib.hid (show kd ⟨k, s, n⟩ = 0 by rw [kd, if_pos hs, if_neg hn, if_neg hp])
        have b : (n == 0) = false := by simpa using hn
        subst hs
        clear hn
        go_enter Tryz.func62, Tryz.ntmps62
        go_wp2_with fail
        go_ret
        exact ⟨by rw [H.out]; rfl, (Below.refl _ _).alloc (Nat.le_refl _) _⟩
  · have b0 : s.isEmpty = false := by simpa using hs
    by_cases hn : n = 0
    · have H := Lib.hid (show kd ⟨k, s, n⟩ = 1 by rw [kd, if_neg hs, if_pos hn])
      subst hn
      clear hs
      go_enter Tryz.func62, Tryz.ntmps62
      go_wp2_with fail
      go_ret
      exact ⟨by rw [H.out]; rfl, (Below.refl _ _).alloc (Nat.le_refl _) _⟩
    · have H := Lib.hid (show kd ⟨k, s, n⟩ = 0 by rw [kd, if_neg hs, if_neg hn])
      have b : (n == 0) = false := by simpa using hn
      clear hs hn
      go_enter Tryz.func62, Tryz.ntmps62
      go_wp2_with fail
      go_ret
      exact ⟨by rw [H.out]; rfl, (Below.refl _ _).alloc (Nat.le_refl _) _⟩
theorem isOne_iff (x y : Op) : isOne x y = true ↔ x.k = y.k ∧ x.k ≠ 3 := by simp [isOne]
set_option maxRecDepth 100000 in
set_option maxHeartbeats 1000000 in
theorem one_calls (x y : Op) (w : World) :
    Calls Tryz.prog 61 #[.agg #[.int .i64 x.k, .string ⟨x.s.toArray⟩, .int .i64 x.n], .agg #[.int .i64 y.k, .string ⟨y.s.toArray⟩, .int .i64 y.n]] w fun e w' => e = .returned (.bool (isOne x y)) ∧ Below w.heap.size w w' := by
  have HB := Lib.hid (((Below.refl w.heap.size w).alloc (Nat.le_refl _) (.cells #[.int .i64 x.k, .string ⟨x.s.toArray⟩, .int .i64 x.n] 58 (0, 0))).alloc (by simp) (.cells #[.int .i64 y.k, .string ⟨y.s.toArray⟩, .int .i64 y.n] 58 (0, 0)))
  by_cases h : x.k = y.k
  · have b : (x.k == y.k) = true := by simpa using h
    by_cases h3 : x.k = 3
    · have H := Lib.hid (show isOne x y = false by rw [isOne, b, h3]; rfl)
      have b3 : (x.k != 3) = false := by simp [h3]
      have b4 : (x.k == 3) = true := by simp [h3]
      clear h h3
      go_enter Tryz.func61, Tryz.ntmps61
      go_wp2_with fail
      go_ret
      exact ⟨by rw [H.out]; rfl, HB.out⟩
    · have b3 : (x.k != 3) = true := by simp [h3]
      have b4 : (x.k == 3) = false := by simp [h3]
      have H := Lib.hid (show isOne x y = true by rw [isOne, b, b3]; rfl)
      clear h h3
      go_enter Tryz.func61, Tryz.ntmps61
      go_wp2_with fail
      go_ret
      exact ⟨by rw [H.out]; rfl, HB.out⟩
  · have b : (x.k == y.k) = false := by simpa using h
    have H := Lib.hid (show isOne x y = false by rw [isOne, b]; rfl)
    clear h
    go_enter Tryz.func61, Tryz.ntmps61
    go_wp2_with fail
    go_ret
    exact ⟨by rw [H.out]; rfl, HB.out⟩

/-- the step that an op tells, if any -/
def stepV (x : Op) : Value := if x.k = kd x then stV x else .nilIface
def stepB (x : Op) : Bool := x.k == kd x && x.k != 0
theorem stepB_iff (x : Op) : stepB x = true ↔ Ok x := by
  constructor
  · intro h
    simp only [stepB, Bool.and_eq_true, beq_iff_eq, bne_iff_ne] at h
    exact ok_kd h.1 h.2
  · intro h
    have e := h.kd
    simp only [stepB, Bool.and_eq_true, beq_iff_eq, bne_iff_ne]
    refine ⟨e.symm, ?_⟩
    rcases h with ⟨a, _⟩ | ⟨a, _⟩ | ⟨a, _⟩ <;> omega
theorem kd_bd (x : Op) : kd x = 0 ∨ kd x = 1 ∨ kd x = 2 ∨ kd x = 3 := by
  unfold kd
  split
  · split
    · simp
    · split <;> simp
  · split <;> simp
theorem held3 {w w' : World} {g o : Nat} {x y z : Value} (hb : Below w.heap.size w w') (hl : g < w.heap.size) (h0 : w.cell? ⟨g, o, none⟩ = some x) (h1 : w.cell? ⟨g, o + 1, none⟩ = some y) (h2 : w.cell? ⟨g, o + 2, none⟩ = some z) :
    Below w.heap.size w w' ∧ w'.cell? ⟨g, o, none⟩ = some x ∧ w'.cell? ⟨g, o + 1, none⟩ = some y ∧ w'.cell? ⟨g, o + 2, none⟩ = some z :=
  ⟨hb, (hb.cell (p := ⟨g, o, none⟩) hl).trans h0, (hb.cell (p := ⟨g, o + 1, none⟩) hl).trans h1, (hb.cell (p := ⟨g, o + 2, none⟩) hl).trans h2⟩

end Go.Proofs.YtnkhdpenmekhdaaGreat.Brk
end

section
namespace Go.Proofs.YtnkhdpenmekhdaaGreat.Brk
open Go.RowKit Go.Proofs.YtnkhdpenmekhdaaGreat.Digit Go.Proofs.YtnkhdpenmekhdaaGreat.Own

theorem as_send (v : Value) (w : World) : (Instr.typeAssert (.iface 110 v) 89 110 true).run Tryz.prog w = .ok (.tuple #[v, .bool true]) w := by kernel_rfl
theorem as_wait (v : Value) (w : World) : (Instr.typeAssert (.iface 112 v) 89 112 true).run Tryz.prog w = .ok (.tuple #[v, .bool true]) w := by kernel_rfl
theorem as_pulse (v : Value) (w : World) : (Instr.typeAssert (.iface 114 v) 89 114 true).run Tryz.prog w = .ok (.tuple #[v, .bool true]) w := by kernel_rfl
theorem wait_send (v : Value) (w : World) : (Instr.typeAssert (.iface 112 v) 89 110 true).run Tryz.prog w = .ok (.tuple #[.string ⟨#[]⟩, .bool false]) w := by kernel_rfl
theorem pulse_send (v : Value) (w : World) : (Instr.typeAssert (.iface 114 v) 89 110 true).run Tryz.prog w = .ok (.tuple #[.string ⟨#[]⟩, .bool false]) w := by kernel_rfl
theorem pulse_wait (v : Value) (w : World) : (Instr.typeAssert (.iface 114 v) 89 112 true).run Tryz.prog w = .ok (.tuple #[.int .i64 0, .bool false]) w := by kernel_rfl

set_option maxRecDepth 100000 in
set_option maxHeartbeats 2000000 in
theorem op_send (s : List UInt8) (hs : s ≠ []) (w : World) :
    Calls Tryz.prog 48 #[.iface 110 (.string ⟨s.toArray⟩)] w fun e w' => e = .returned (.agg #[.int .i64 1, .string ⟨s.toArray⟩, .int .i64 0]) ∧ Below w.heap.size w w' := by
  have HC := Lib.hid (kind_calls 0 s 0)
  rw [show kd ⟨0, s, 0⟩ = 1 by simp [kd, hs]] at HC
  have f1 := as_send (.string ⟨s.toArray⟩)
  clear hs
  go_enter Tryz.func48, Tryz.ntmps48
  go_wp2_with fail
  refine (HC.out _).mono ?_
  rintro e w1 ⟨rfl, hb1⟩
  have r0 := (hb1.block w.heap.size (by simp; omega)).trans (at_old (w.alloc _) _ (at_new w _))
  have r1 := (hb1.block (w.heap.size + 1) (by simp)).trans (at_newk (w.alloc _) _ (by simp))
  have B1 := Lib.hid ((((Below.refl w.heap.size w).alloc (Nat.le_refl _) _).alloc (by simp) _).trans (hb1.mono (by simp; omega)))
  clear hb1
  obtain ⟨a0, a1, a2⟩ := row3 r0
  obtain ⟨c0, c1, c2⟩ := row3 r1
  obtain ⟨d0, d1, d2⟩ := frz3 r0
  obtain ⟨e0, e1, e2⟩ := frz3 r1
  have l0 := at_lt r0
  have l1 := at_lt r1
  have R0 := Lib.hid r0
  clear r0 r1
  go_wp2_with fail
  have hrow := at_set (at_set (at_set ((at_set_other w1 (b := w.heap.size + 1) (k := w.heap.size) (by omega) 0 (.int .i64 1)).trans R0.out) 0 (.int .i64 1)) 1 (.string ⟨s.toArray⟩)) 2 (.int .i64 0)
  refine bodyPost_ret (results_cell_row rfl _ _ w.heap.size _ #[.int .i64 1, .string ⟨s.toArray⟩, .int .i64 0] _ _ rfl hrow Tryz.underlying58 rfl (by kernel_rfl)) rfl ?_
  exact ⟨rfl, (((B1.out.setCell (by simp) _).setCell (by simp) _).setCell (by simp) _).setCell (by simp) _⟩
set_option maxRecDepth 100000 in
set_option maxHeartbeats 2000000 in
theorem op_wait (n : Int) (hn : 0 < n) (w : World) :
    Calls Tryz.prog 48 #[.iface 112 (.int .i64 n)] w fun e w' => e = .returned (.agg #[.int .i64 2, .string ⟨#[]⟩, .int .i64 n]) ∧ Below w.heap.size w w' := by
  have HC := Lib.hid (kind_calls 0 [] n)
  rw [show kd ⟨0, [], n⟩ = 2 by rw [kd, if_pos rfl, if_neg (by show ¬ n = 0; omega), if_pos hn]] at HC
  have f1 := as_wait (.int .i64 n)
  have f2 := wait_send (.int .i64 n)
  go_enter Tryz.func48, Tryz.ntmps48
  go_wp2_with fail
  refine (HC.out _).mono ?_
  rintro e w1 ⟨rfl, hb1⟩
  have r0 := (hb1.block w.heap.size (by simp; omega)).trans (at_old (w.alloc _) _ (at_new w _))
  have r1 := (hb1.block (w.heap.size + 1) (by simp)).trans (at_newk (w.alloc _) _ (by simp))
  have B1 := Lib.hid ((((Below.refl w.heap.size w).alloc (Nat.le_refl _) _).alloc (by simp) _).trans (hb1.mono (by simp; omega)))
  clear hb1
  obtain ⟨a0, a1, a2⟩ := row3 r0
  obtain ⟨c0, c1, c2⟩ := row3 r1
  obtain ⟨d0, d1, d2⟩ := frz3 r0
  obtain ⟨e0, e1, e2⟩ := frz3 r1
  have l0 := at_lt r0
  have l1 := at_lt r1
  have R0 := Lib.hid r0
  clear r0 r1
  go_wp2_with fail
  have hrow := at_set (at_set (at_set ((at_set_other w1 (b := w.heap.size + 1) (k := w.heap.size) (by omega) 0 (.int .i64 2)).trans R0.out) 0 (.int .i64 2)) 1 (.string ⟨#[]⟩)) 2 (.int .i64 n)
  refine bodyPost_ret (results_cell_row rfl _ _ w.heap.size _ #[.int .i64 2, .string ⟨#[]⟩, .int .i64 n] _ _ rfl hrow Tryz.underlying58 rfl (by kernel_rfl)) rfl ?_
  exact ⟨rfl, (((B1.out.setCell (by simp) _).setCell (by simp) _).setCell (by simp) _).setCell (by simp) _⟩
set_option maxRecDepth 100000 in
set_option maxHeartbeats 2000000 in
theorem op_pulse (w : World) :
    Calls Tryz.prog 48 #[.iface 114 (.agg #[])] w fun e w' => e = .returned (.agg #[.int .i64 3, .string ⟨#[]⟩, .int .i64 0]) ∧ Below w.heap.size w w' := by
  have HC := Lib.hid (kind_calls 0 [] 0)
  rw [show kd ⟨0, [], 0⟩ = 3 by rfl] at HC
  have f1 := as_pulse (.agg #[])
  have f2 := pulse_send (.agg #[])
  have f3 := pulse_wait (.agg #[])
  go_enter Tryz.func48, Tryz.ntmps48
  go_wp2_with fail
  refine (HC.out _).mono ?_
  rintro e w1 ⟨rfl, hb1⟩
  have r0 := (hb1.block w.heap.size (by simp; omega)).trans (at_old ((w.alloc _).alloc _) _ (at_old (w.alloc _) _ (at_new w _)))
  have r1 := (hb1.block (w.heap.size + 1) (by simp)).trans (at_old ((w.alloc _).alloc _) _ (at_newk (w.alloc _) _ (by simp)))
  have B1 := Lib.hid (((((Below.refl w.heap.size w).alloc (Nat.le_refl _) _).alloc (by simp) _).alloc (by simp; omega) _).trans (hb1.mono (by simp; omega)))
  clear hb1
  obtain ⟨a0, a1, a2⟩ := row3 r0
  obtain ⟨c0, c1, c2⟩ := row3 r1
  obtain ⟨d0, d1, d2⟩ := frz3 r0
  obtain ⟨e0, e1, e2⟩ := frz3 r1
  have l0 := at_lt r0
  have l1 := at_lt r1
  have R0 := Lib.hid r0
  clear r0 r1
  go_wp2_with fail
  have hrow := at_set (at_set (at_set ((at_set_other w1 (b := w.heap.size + 1) (k := w.heap.size) (by omega) 0 (.int .i64 3)).trans R0.out) 0 (.int .i64 3)) 1 (.string ⟨#[]⟩)) 2 (.int .i64 0)
  refine bodyPost_ret (results_cell_row rfl _ _ w.heap.size _ #[.int .i64 3, .string ⟨#[]⟩, .int .i64 0] _ _ rfl hrow Tryz.underlying58 rfl (by kernel_rfl)) rfl ?_
  exact ⟨rfl, (((B1.out.setCell (by simp) _).setCell (by simp) _).setCell (by simp) _).setCell (by simp) _⟩
theorem op_calls (x : Op) (h : Ok x) (w : World) :
    Calls Tryz.prog 48 #[stV x] w fun e w' => e = .returned (.agg #[.int .i64 x.k, .string ⟨x.s.toArray⟩, .int .i64 x.n]) ∧ Below w.heap.size w w' := by
  obtain ⟨k, s, n⟩ := x
  rcases h with ⟨a, b, c⟩ | ⟨a, b, c⟩ | ⟨a, b, c⟩
  · simp only at a b c; subst a c; exact op_send s b w
  · simp only at a b c; subst a b; exact op_wait n (by omega) w
  · simp only at a b c; subst a b c; exact op_pulse w
end Go.Proofs.YtnkhdpenmekhdaaGreat.Brk
end

section
namespace Go.Proofs.YtnkhdpenmekhdaaGreat.Brk
open Go.RowKit Go.Proofs.YtnkhdpenmekhdaaGreat.Digit Go.Proofs.YtnkhdpenmekhdaaGreat.Own

def BPost (w : World) (B : Nat) (acc : List Op) (x : Op) (e : Ending) (w' : World) : Prop := ∃ v, e = .returned v ∧ Mine w' B v (bhd acc x) ∧ Below B w w'

theorem cell_alloc' {w : World} {a : Addr} {x : Value} (h : w.cell? a = some x) (o : Obj) : (w.alloc o).cell? a = some x :=
  (World.cell?_of_block (Below.heap_alloc w o a.block (World.block_lt_of_cell? w a h))).trans h
theorem held6 {w w' : World} {g o b : Nat} {x y z x' y' z' : Value} (hb : Below w.heap.size w w') (hl : g < w.heap.size) (hl' : b < w.heap.size)
    (h0 : w.cell? ⟨g, o, none⟩ = some x) (h1 : w.cell? ⟨g, o + 1, none⟩ = some y) (h2 : w.cell? ⟨g, o + 2, none⟩ = some z)
    (k0 : w.cell? ⟨b, 0, none⟩ = some x') (k1 : w.cell? ⟨b, 1, none⟩ = some y') (k2 : w.cell? ⟨b, 2, none⟩ = some z') :
    Below w.heap.size w w' ∧ w'.cell? ⟨g, o, none⟩ = some x ∧ w'.cell? ⟨g, o + 1, none⟩ = some y ∧ w'.cell? ⟨g, o + 2, none⟩ = some z ∧ w'.cell? ⟨b, 0, none⟩ = some x' ∧ w'.cell? ⟨b, 1, none⟩ = some y' ∧ w'.cell? ⟨b, 2, none⟩ = some z' :=
  ⟨hb, (hb.cell (p := ⟨g, o, none⟩) hl).trans h0, (hb.cell (p := ⟨g, o + 1, none⟩) hl).trans h1, (hb.cell (p := ⟨g, o + 2, none⟩) hl).trans h2,
    (hb.cell (p := ⟨b, 0, none⟩) hl').trans k0, (hb.cell (p := ⟨b, 1, none⟩) hl').trans k1, (hb.cell (p := ⟨b, 2, none⟩) hl').trans k2⟩

set_option maxRecDepth 100000 in
set_option maxHeartbeats 4000000 in
theorem behind_nil (x : Op) (B : Nat) (v : Value) (w : World) (h : Mine w B v []) (hB : B ≤ w.heap.size) :
    Calls Tryz.prog 47 #[v, .agg #[.int .i64 x.k, .string ⟨x.s.toArray⟩, .int .i64 x.n]] w (BPost w B [] x) := by
  obtain ⟨i0, hi, hz0, hz1, hz2⟩ := info_parts info_op
  obtain ⟨p, c, rfl, hc, hm⟩ := mine_form h
  have HO := Lib.hid h
  unfold maxLen at hm
  have e0 : (([] : List Op).length) = 0 := rfl
  rw [e0] at hc ⊢
  clear h
  go_enter Tryz.func47, Tryz.ntmps47
  go_wp2_with fail
  go_quiet (fail)
  have hn0 : ((w.alloc (.cells #[.int .i64 x.k, .string ⟨x.s.toArray⟩, .int .i64 x.n] 58)).drewN nq).heap[w.heap.size]? = some (.cells #[.int .i64 x.k, .string ⟨x.s.toArray⟩, .int .i64 x.n] 58 (0, 0)) := at_new w _
  have HOW := Lib.hid (show ((w.alloc (.cells #[.int .i64 x.k, .string ⟨x.s.toArray⟩, .int .i64 x.n] 58)).drewN nq).ownsRow B 58 3 (.slice p 0 c) 0 [] from World.ownsRow.alloc HO.out _)
  have HBW := Lib.hid (show Below B w ((w.alloc (.cells #[.int .i64 x.k, .string ⟨x.s.toArray⟩, .int .i64 x.n] 58)).drewN nq) from below_drew ((Below.refl B w).alloc hB _))
  generalize (w.alloc (.cells #[.int .i64 x.k, .string ⟨x.s.toArray⟩, .int .i64 x.n] 58)).drewN nq = W at *
  generalize hbb : w.heap.size = b at hn0 ⊢
  clear hbb
  obtain ⟨d0, d1, d2⟩ := row3 hn0
  have hs5 := HBW.out.size
  have hBW : B ≤ W.heap.size := Nat.le_trans hB hs5
  have lb := at_lt hn0
  clear hn0
  go_wp2_with (at_builtin; refine Own.append_any rfl (.tmp 20) (.tmp 22) 30 rfl B 58 i0 _ 3 32 Tryz.underlying30 hi hz0 hz1 hz2 rfl (by decide) _ _ _ rfl (World.ownsRow.alloc HOW.out _) _ 1 1 [.int .i64 x.k, .string ⟨x.s.toArray⟩, .int .i64 x.n] rfl (fun h => nomatch h) rfl (Own.three_new _ _ _ _ _ _ (by simp)) (by simp [Value.oneCell']) (by unfold maxLen; omega) (by omega) (by simp; omega) ?_; intro v' w1 hown1 hgrow1)
  have M1 := Lib.hid (mine_more (L := []) hown1 rfl)
  have B1 := Lib.hid ((HBW.out.alloc hBW _).grown hgrow1 (by simp; omega) (fun k hk => (World.ownsRow.lt HOW.out k hk).1))
  clear hown1 hgrow1
  go_wp2_with fail
  go_ret
  exact ⟨_, rfl, M1.out, B1.out⟩
set_option maxRecDepth 100000 in
set_option maxHeartbeats 4000000 in
theorem behind_more (L : List Op) (y x : Op) (hL : L.length ≤ 1000000) (B : Nat) (v : Value) (w : World) (h : Mine w B v (L ++ [y])) (hB : B ≤ w.heap.size)
    (hs : y.s.length ≤ 1000000) (hs' : x.s.length ≤ 1000000) (hn : 0 ≤ y.n ∧ y.n ≤ 1099511627776) (hn' : 0 ≤ x.n ∧ x.n ≤ 1099511627776) :
    Calls Tryz.prog 47 #[v, .agg #[.int .i64 x.k, .string ⟨x.s.toArray⟩, .int .i64 x.n]] w (BPost w B (L ++ [y]) x) := by
  obtain ⟨i0, hi, hz0, hz1, hz2⟩ := info_parts info_op
  obtain ⟨g, c, rfl, hBg, hg, hc, hm, a0, a1, a2, f0, f1, f2⟩ := mine_last h
  have HO := Lib.hid h
  unfold maxLen at hm
  obtain ⟨m, hmm⟩ : ∃ m, L.length = m := ⟨_, rfl⟩
  rw [hmm] at hL hc a0 a1 a2 f0 f1 f2
  obtain ⟨n, hnn⟩ : ∃ n, n = m + 1 := ⟨_, rfl⟩
  have hln : (L ++ [y]).length = n := by rw [List.length_append, List.length_singleton]; omega
  rw [hmm, ← hnn] at HO
  unfold Mine at HO
  rw [hln] at HO
  rw [hmm, ← hnn]
  rw [← hnn] at hc
  have q1 : m < n := by omega
  have q2 : n ≤ 1000001 := by omega
  have q3 : ((n : Int) - 1) = (m : Int) := by omega
  have q4 : decide ((m : Int) < 0) = false := decide_eq_false (by omega)
  have HM := Lib.hid hmm
  have HNN := Lib.hid hnn
  have HLN := Lib.hid hln.symm
  obtain ⟨xk, xs, xn⟩ := x
  obtain ⟨yk, ys, yn⟩ := y
  simp only at a0 a1 a2 hs hs' hn hn'
  have HI := Lib.hid (one_calls ⟨yk, ys, yn⟩ ⟨xk, xs, xn⟩)
  show Calls Tryz.prog 47 #[.slice (some ⟨g, 0, none⟩) n c, .agg #[.int .i64 xk, .string ⟨xs.toArray⟩, .int .i64 xn]] w _
  obtain ⟨bo, hbo⟩ : ∃ bo, isOne ⟨yk, ys, yn⟩ ⟨xk, xs, xn⟩ = bo := ⟨_, rfl⟩
  rw [hbo] at HI
  have HBO := Lib.hid hbo
  clear hbo h hmm hnn hln
  have HN := Lib.hid (at_new w (.cells #[.int .i64 xk, .string ⟨xs.toArray⟩, .int .i64 xn] 58 (0, 0)))
  have HOB := Lib.hid (World.ownsRow.alloc HO.out (.cells #[.int .i64 xk, .string ⟨xs.toArray⟩, .int .i64 xn] 58 (0, 0)))
  have HBW := Lib.hid ((Below.refl B w).alloc hB (.cells #[.int .i64 xk, .string ⟨xs.toArray⟩, .int .i64 xn] 58 (0, 0)))
  replace a0 := cell_alloc' a0 (.cells #[.int .i64 xk, .string ⟨xs.toArray⟩, .int .i64 xn] 58 (0, 0))
  replace a1 := cell_alloc' a1 (.cells #[.int .i64 xk, .string ⟨xs.toArray⟩, .int .i64 xn] 58 (0, 0))
  replace a2 := cell_alloc' a2 (.cells #[.int .i64 xk, .string ⟨xs.toArray⟩, .int .i64 xn] 58 (0, 0))
  clear f0 f1 f2
  go_enter Tryz.func47, Tryz.ntmps47
  go_wp2_with fail
  generalize hW : w.alloc (.cells #[.int .i64 xk, .string ⟨xs.toArray⟩, .int .i64 xn] 58 (0, 0)) = W at HN HOB HBW a0 a1 a2 ⊢
  have hgW : g < W.heap.size := by rw [← hW]; simp; omega
  clear hW
  have hlb := at_lt HN.out
  obtain ⟨d0, d1, d2⟩ := row3 HN.out
  have hgb : g ≠ w.heap.size := by omega
  generalize hbb : w.heap.size = b at HN d0 d1 d2 hlb hgb ⊢
  have hs5 := HBW.out.size
  have hBW : B ≤ W.heap.size := by omega
  clear hbb hB hg
  go_region_held3 (fun w' => Below W.heap.size W w' ∧ w'.cell? ⟨g, m * 3, none⟩ = some (.int .i64 yk) ∧ w'.cell? ⟨g, m * 3 + 1, none⟩ = some (.string ⟨ys.toArray⟩) ∧ w'.cell? ⟨g, m * 3 + 2, none⟩ = some (.int .i64 yn) ∧ w'.cell? ⟨b, 0, none⟩ = some (.int .i64 xk) ∧ w'.cell? ⟨b, 1, none⟩ = some (.string ⟨xs.toArray⟩) ∧ w'.cell? ⟨b, 2, none⟩ = some (.int .i64 xn))
    (first
      | exact held6 (below_drew (Below.refl _ _)) hgW hlb a0 a1 a2 d0 d1 d2
      | exact held6 hb5 hgW hlb a0 a1 a2 d0 d1 d2)
    (first
      | (go_at_call 61; go_split_ands; refine (HI.out _).mono ?_; rintro e w5 ⟨rfl, hb5⟩; replace hb5 := Below.trans (by assumption) (hb5.mono (Below.size (by assumption)))))
  obtain ⟨-, c0, c1, c2, e0, e1, e2⟩ := held6 hb5 hgW hlb a0 a1 a2 d0 d1 d2
  have HOW := Lib.hid (own_below HOB.out hb5)
  have HB5 := Lib.hid (HBW.out.trans (hb5.mono (by omega)))
  have hs6 := hb5.size
  have hg5 : g < w5.heap.size := by omega
  have hb5l : b < w5.heap.size := by omega
  have hB5 : B ≤ w5.heap.size := by omega
  rename_i hH
  clear hH
  clear a0 a1 a2 d0 d1 d2 hb5 HN HOB HBW q4 HO
  cases bo with
  | false =>
    clear c0 c1 c2
    go_wp2_with (at_builtin; refine Own.append_any rfl (.tmp 20) (.tmp 22) 30 rfl B 58 i0 _ 3 32 Tryz.underlying30 hi hz0 hz1 hz2 rfl (by decide) _ _ _ rfl (World.ownsRow.alloc HOW.out _) _ 1 1 [.int .i64 xk, .string ⟨xs.toArray⟩, .int .i64 xn] rfl (fun h => nomatch h) rfl (Own.three_new _ _ _ _ _ _ (by simp)) (by simp [Value.oneCell']) (by unfold maxLen; omega) (by omega) (by simp; omega) ?_; intro v' w1 hown1 hgrow1)
    have M1 := Lib.hid (mine_more (x := ⟨xk, xs, xn⟩) hown1 HLN.out)
    have B1 := Lib.hid ((HB5.out.alloc hB5 _).grown hgrow1 (by simp; omega) (fun k hk => (World.ownsRow.lt HOW.out k hk).1))
    clear hown1 hgrow1
    go_wp2_with fail
    go_ret
    exact ⟨_, rfl, by rw [bhd_two HBO.out]; exact M1.out, B1.out⟩
  | true =>
    have f0 := World.ownsRow.frozenAt HOW.out (m * 3)
    have f1 := World.ownsRow.frozenAt HOW.out (m * 3 + 1)
    have f2 := World.ownsRow.frozenAt HOW.out (m * 3 + 2)
    have hz : ys.length + xs.length ≤ 2000000 := by omega
    go_wp2_with fail
    go_region
    go_wp2_with fail
    go_region
    go_wp2_with fail
    go_ret
    have s1 := (World.ownsRow.stored HOW.out (m * 3 + 1) (.string ⟨(ys ++ xs).toArray⟩)).1
    rw [← HM.out, ov_set1 L ⟨yk, ys, yn⟩ (ys ++ xs)] at s1
    have s2 := (World.ownsRow.stored s1 (L.length * 3 + 2) (.int .i64 (yn + xn))).1
    rw [ov_set2 L ⟨yk, ys ++ xs, yn⟩ (yn + xn)] at s2
    refine ⟨_, rfl, ?_, ?_⟩
    · rw [bhd_one HBO.out, bytes_add]
      unfold Mine
      rw [show (L ++ [glue ⟨yk, ys, yn⟩ ⟨xk, xs, xn⟩]).length = n by rw [HLN.out]; simp, ← HM.out]
      exact s2
    · exact ((HB5.out.setCell hBg _).setCell hBg _).drew.drew
theorem behind_calls (acc : List Op) (x : Op) (hL : acc.length ≤ 1000000) (B : Nat) (v : Value) (w : World) (h : Mine w B v acc) (hB : B ≤ w.heap.size)
    (hs : ∀ y ∈ acc, y.s.length ≤ 1000000 ∧ 0 ≤ y.n ∧ y.n ≤ 1099511627776) (hs' : x.s.length ≤ 1000000) (hn' : 0 ≤ x.n ∧ x.n ≤ 1099511627776) :
    Calls Tryz.prog 47 #[v, .agg #[.int .i64 x.k, .string ⟨x.s.toArray⟩, .int .i64 x.n]] w (BPost w B acc x) := by
  rcases snoc_cases acc with rfl | ⟨L, y, rfl⟩
  · exact behind_nil x B v w h hB
  · obtain ⟨a, b⟩ := hs y (by simp)
    exact behind_more L y x (by simp at hL; omega) B v w h hB a hs' b hn'
end Go.Proofs.YtnkhdpenmekhdaaGreat.Brk
end

section
namespace Go.Proofs.YtnkhdpenmekhdaaGreat.Brk
open Go.RowKit Go.Proofs.YtnkhdpenmekhdaaGreat.Digit Go.Proofs.YtnkhdpenmekhdaaGreat.Own

theorem mine_nil (w : World) (B : Nat) : Mine w B (.slice none 0 0) [] := World.ownsRow_nil _ _ _ _
theorem cut_drop (m : List UInt8) (k : Nat) (hk : k ≤ m.length) (W : World) :
    (Instr.sliceAt 9 (.string ⟨m.toArray⟩) (some (.int .i64 k)) none none).run Tryz.prog W = .ok (.string ⟨(m.drop k).toArray⟩) W := by
  have hz : (⟨m.toArray⟩ : ByteArray).size = m.length := List.size_toArray ..
  rw [run_sliceAt_string W 9 _ _ _ _ Tryz.underlying9, run_slice_string_from_if W 9 _ .i64 k Tryz.underlying9, if_pos ⟨by omega, by rw [hz]; omega⟩]
  have e : (⟨m.toArray⟩ : ByteArray).extract k m.length = ⟨(m.drop k).toArray⟩ := by
    apply ByteArray.ext; simp [List.extract_eq_take_drop]
    exact List.take_of_length_le (by simp)
  rw [hz, Int.toNat_natCast, e]
def RPost (s : List UInt8) (w : World) (e : Ending) (w' : World) : Prop := ∃ v, e = .returned (.tuple #[v, .int .i64 (rC s)]) ∧ Mine w' w.heap.size v (rV s) ∧ Below w.heap.size w w'
/-- steps read, and what is left -/
structure RdAt (S : List UInt8) (w wr : World) (acc : List Op) (m : List UInt8) (c : Nat) (v : Value) : Prop where
  own : Mine wr w.heap.size v acc
  below : Below w.heap.size w wr
  bd : Bd acc c
  len : c + m.length ≤ S.length
  fit : S.length ≤ 255
  left : rdF acc m = rdF [] S
theorem bd_each {acc : List Op} {c : Nat} (h : Bd acc c) (hc : c ≤ 255) : ∀ y ∈ acc, y.s.length ≤ 255 ∧ 0 ≤ y.n ∧ y.n ≤ 25245 := by
  obtain ⟨h1, h2, h3, h4⟩ := h
  have key : ∀ l : List Op, (∀ x ∈ l, Ok x) → 0 ≤ cst l ∧ ∀ y ∈ l, y.s.length ≤ (byt l).length ∧ y.n ≤ cst l := by
    intro l
    induction l with
    | nil => intro _; exact ⟨by simp [cst], fun y hy => by simp at hy⟩
    | cons x l ih =>
      intro hl
      obtain ⟨i1, i2⟩ := ih fun y hy => hl y (List.mem_cons_of_mem _ hy)
      have hx := (hl x (by simp)).pos
      refine ⟨by simp only [cst]; omega, fun y hy => ?_⟩
      simp only [cst, byt, List.length_append]
      rcases List.mem_cons.1 hy with rfl | hy
      · omega
      · have := i2 y hy; omega
  intro y hy
  have := (key acc h4).2 y hy
  have := (h4 y hy).pos
  omega
theorem RdAt.step {S : List UInt8} {w wr w5 : World} {acc : List Op} {m : List UInt8} {c : Nat} {v v' : Value} (h : RdAt S w wr acc m c v) (h0 : (one m).2 ≠ 0)
    (ho : Mine w5 w.heap.size v' (bhd acc (one m).1)) (hb : Below w.heap.size wr w5) : RdAt S w w5 (bhd acc (one m).1) (m.drop (one m).2) (c + (one m).2) v' := by
  obtain ⟨s1, s2, s3⟩ := one_yes h0
  have hl := h.len
  refine ⟨ho, h.below.trans hb, h.bd.step s1 s2, ?_, h.fit, ?_⟩
  · rw [List.length_drop]; omega
  · rw [← h.left, rdF_yes h0]
theorem RdAt.done {S : List UInt8} {w wr : World} {acc : List Op} {c : Nat} {v : Value} (h : RdAt S w wr acc [] c v) : RPost S w (.returned (.tuple #[v, .int .i64 0])) wr := by
  have e := h.left
  rw [rdF_nil] at e
  obtain ⟨e1, e2⟩ := r_some (by have := h.fit; omega) e.symm
  exact ⟨v, by rw [e1], by rw [e2]; exact h.own, h.below⟩
theorem RdAt.bad {S : List UInt8} {w wr w' : World} {acc : List Op} {m : List UInt8} {c : Nat} {v : Value} (h : RdAt S w wr acc m c v) (hm : m ≠ []) (h0 : (one m).2 = 0) (hb : Below w.heap.size w w') : RPost S w (.returned (.tuple #[.slice none 0 0, .int .i64 3])) w' := by
  have e := h.left
  rw [rdF_no hm h0] at e
  obtain ⟨e1, e2⟩ := r_none (by have := h.fit; omega) e.symm
  exact ⟨_, by rw [e1], by rw [e2]; exact mine_nil _ _, hb⟩

set_option maxRecDepth 100000 in
set_option maxHeartbeats 4000000 in
theorem read_calls (s : List UInt8) (hs : s.length ≤ 1099511627776) (w : World) :
    Calls Tryz.prog 22 #[.string ⟨s.toArray⟩] w (RPost s w) := by
  by_cases hbig : 255 < s.length
  · obtain ⟨e1, e2⟩ := r_big hbig
    have H := Lib.hid (And.intro e1 e2)
    have q : (255 : Int) < (s.length : Int) := by omega
    clear e1 e2 hbig
    go_enter Tryz.func22, Tryz.ntmps22
    go_wp2_with fail
    go_ret2
    exact ⟨_, by rw [H.out.1]; rfl, by rw [H.out.2]; exact mine_nil _ _, Below.refl _ _⟩
  · have q : ¬ (255 : Int) < (s.length : Int) := by omega
    have hs2 : s.length ≤ 255 := by omega
    clear hbig
    go_enter Tryz.func22, Tryz.ntmps22
    go_wp2_with fail
    go_loopw [0, 4] (fun s' v wr => ∃ (m : List UInt8) (acc : List Op) (c : Nat), s' = .string ⟨m.toArray⟩ ∧ RdAt s w wr acc m c v) (fun s' _ _ => lenOf s')
    case atStart => exact ⟨s, [], 0, rfl, mine_nil _ _, Below.refl _ _, Bd.nil, by omega, hs2, rfl⟩
    case round =>
      obtain ⟨m, acc, c, rfl, C⟩ := hrel
      by_cases h0 : m = []
      · subst h0
        have HC := Lib.hid C
        clear C
        go_wp2_with fail
        go_ret2
        exact HC.out.done
      · have hi : m.isEmpty = false := by simpa using h0
        have hpos : 0 < m.length := List.length_pos_iff.2 h0
        have hml : m.length ≤ 255 := by have := C.len; have := C.fit; omega
        have hz : (⟨m.toArray⟩ : ByteArray).size = m.length := List.size_toArray ..
        have HF := Lib.hid (first_calls ⟨m.toArray⟩ (by omega) (by omega))
        rw [show (⟨m.toArray⟩ : ByteArray).data.toList = m from rfl] at HF
        have HM := Lib.hid h0
        have HC := Lib.hid C
        have hbs := C.below.size
        clear hz h0 C
        obtain ⟨r, hr⟩ : ∃ r, one m = r := ⟨_, rfl⟩
        rw [hr] at HF
        obtain ⟨x, k⟩ := r
        have HR := Lib.hid hr
        unfold oneV at HF
        simp only at HF
        clear hr
        by_cases hk : k = 0
        · subst hk
          go_wp2_with (go_at_call 46; refine (HF.out _).mono ?_; rintro e w5 ⟨rfl, hb⟩)
          go_ret2
          exact HC.out.bad HM.out (by rw [HR.out]) (HC.out.below.trans (hb.mono hbs))
        · obtain ⟨s1, s2, s3⟩ := one_yes (l := m) (by rw [HR.out]; exact hk)
          rw [HR.out] at s1 s2 s3
          simp only at s1 s2 s3
          have hk0 : ((k : Int) == 0) = false := by simpa using hk
          have hcut := cut_drop m k s3
          have HO := Lib.hid (op_calls x s1.ok)
          have HS := Lib.hid s1
          clear s1
          go_wp2_with fail
          refine (HF.out _).mono ?_
          rintro e w5 ⟨rfl, hb5⟩
          have B5 := Lib.hid hb5
          have h5 := hb5.size
          clear hb5
          go_wp2_with fail
          refine (HO.out _).mono ?_
          rintro e w6 ⟨rfl, hb6⟩
          have B6 := Lib.hid (B5.out.trans (hb6.mono h5))
          clear hb6
          have h6 := B6.out.size
          go_wp2_with fail
          refine (behind_calls acc x (by have := HC.out.bd.len; have := HC.out.len; have := HC.out.fit; omega) w.heap.size _ w6 (mine_below HC.out.own B6.out) (by omega) (fun y hy => by
            have := bd_each HC.out.bd (by have := HC.out.len; have := HC.out.fit; omega) y hy; omega) (by have := HS.out.cst; omega) (by have := HS.out.cst; have := HS.out.ok.pos; omega)).mono ?_
          rintro e w7 ⟨v7, rfl, ho7, hb7⟩
          have C7 := Lib.hid (HC.out.step (by rw [HR.out]; exact hk) (by rw [HR.out]; exact ho7) ((B6.out.mono hbs).trans hb7))
          rw [HR.out] at C7
          clear ho7 hb7
          go_wp2_with fail
          go_roundw
          case rel => exact ⟨_, _, _, rfl, C7.out⟩
          case measure => show (m.drop k).toArray.size < m.toArray.size; rw [List.size_toArray, List.size_toArray, List.length_drop]; omega
end Go.Proofs.YtnkhdpenmekhdaaGreat.Brk
end

section
namespace Go.Proofs.YtnkhdpenmekhdaaGreat.Lin
open Go.RowKit Go.Proofs.YtnkhdpenmekhdaaGreat.Own Go.Proofs.YtnkhdpenmekhdaaGreat.Brk Go.Proofs.YtnkhdpenmekhdaaGreat.Calc Go.Proofs.YtnkhdpenmekhdaaGreat.Tree Go.Proofs.YtnkhdpenmekhdaaGreat.Run Go.Proofs.YtnkhdpenmekhdaaGreat.Bkf

set_option maxRecDepth 100000 in
set_option maxHeartbeats 2000000 in
theorem read_any (s : List UInt8) (hs : s.length ≤ 9223372036854775807) (w : World) : Calls Tryz.prog 22 #[.string ⟨s.toArray⟩] w (RPost s w) := by
  by_cases hbig : 255 < s.length
  · obtain ⟨e1, e2⟩ := r_big hbig
    have H := Lib.hid (And.intro e1 e2)
    have q : (255 : Int) < (s.length : Int) := by omega
    clear e1 e2 hbig
    go_enter Tryz.func22, Tryz.ntmps22
    go_wp2_with fail
    go_ret2
    exact ⟨_, by rw [H.out.1]; rfl, by rw [H.out.2]; exact Brk.mine_nil _ _, Below.refl _ _⟩
  · exact Brk.read_calls s (by omega) w
/-- a line that was just made -/
def mk (b c j : Int) (F : List Op) : Ln := ⟨b, c, j, F, 0, 0, 0, [], 0, 0, []⟩
/-- the code of New -/
noncomputable def newC (b c j : Int) (s : List UInt8) : Int := if okR b c j then rC s else 2
/-- a console as it comes in -/
def conV (v0 v1 v2 v3 v4 v5 : Value) (b c j : Int) (s : List UInt8) : Value := .agg #[v0, v1, v2, v3, v4, v5, .int .i64 b, .int .i64 c, .int .i64 j, .string ⟨s.toArray⟩]
/-- what New answers and leaves -/
def NewL (b c j : Int) (s : List UInt8) (w : World) (e : Ending) (w' : World) : Prop :=
  (newC b c j s ≠ 0 ∧ e = .returned (.tuple #[.pointer none, .int .i64 (newC b c j s)]) ∧ Below w.heap.size w w') ∨
  (newC b c j s = 0 ∧ ∃ k S, e = .returned (.tuple #[.pointer (some ⟨k, 0, none⟩), .int .i64 0]) ∧ Mem w' k S (mk b c j (rV s)) ∧ (∀ i, S i → w.heap.size ≤ i) ∧ Below w.heap.size w w')
theorem good_mk {b c j : Int} {s : List UInt8} (h : okR b c j) (hs : rC s = 0) : Good (mk b c j (rV s)) :=
  ⟨h, ⟨Int.le_refl _, by show (0 : Int) ≤ 5; omega⟩, by simp [mk], by have := (first_good hs).1; show (rV s).length ≤ 1000; omega, (first_good hs).2, fun hg => by rcases hg with e | e <;> simp [mk] at e, fun e => by simp [mk] at e⟩
theorem mine_keeps {w : World} {B : Nat} {v : Value} {L : List Op} {S : Nat → Prop} (h : Mine w B v L) (hS : ∀ g, v.ownBlock = some g → ¬ S g) : ∃ p c, v = .slice p L.length c ∧ ∀ W, Out S w W → Ops W L p c := by
  obtain ⟨p, c, rfl, _⟩ := h.ops
  refine ⟨p, c, rfl, fun W ho => ?_⟩
  obtain ⟨p', c', e, h4⟩ := Mine.ops (show Mine W B _ L from own_out h ho fun k hk => hS k hk)
  simp at e
  rw [e.1, e.2]
  exact h4
set_option maxRecDepth 100000 in
set_option maxHeartbeats 4000000 in
theorem new_line (v0 v1 v2 v3 v4 v5 : Value) (b c j : Int) (s : List UInt8) (hs : s.length ≤ 9223372036854775807) (w : World) :
    Calls Tryz.prog 5 #[conV v0 v1 v2 v3 v4 v5 b c j s] w (NewL b c j s w) := by
  unfold conV
  have HB := at_new w (.cells #[v0, v1, v2, v3, v4, v5, .int .i64 b, .int .i64 c, .int .i64 j, .string ⟨s.toArray⟩] 23 (0, 0))
  have hA := (Below.refl w.heap.size w).alloc (Nat.le_refl _) (.cells #[v0, v1, v2, v3, v4, v5, .int .i64 b, .int .i64 c, .int .i64 j, .string ⟨s.toArray⟩] 23 (0, 0))
  have HX := Lib.hid HB
  have HA := Lib.hid hA
  have HSZ : Hid ((w.alloc (.cells #[v0, v1, v2, v3, v4, v5, .int .i64 b, .int .i64 c, .int .i64 j, .string ⟨s.toArray⟩] 23 (0, 0))).heap.size = w.heap.size + 1) := Lib.hid (by simp)
  clear HB hA
  go_enter Tryz.func5, Tryz.ntmps5
  go_wp2_with fail
  generalize w.alloc (.cells #[v0, v1, v2, v3, v4, v5, .int .i64 b, .int .i64 c, .int .i64 j, .string ⟨s.toArray⟩] 23) = W at *
  by_cases hok : okR b c j
  · have HOK := Lib.hid hok
    have HCO : Hid (newC b c j s = rC s) := Lib.hid (by unfold newC; rw [if_pos hok])
    clear hok
    refine (Bkf.new_yes b c j HOK.out W).mono ?_
    rintro e w1 ⟨kw, rfl, hW, hkw, hB1⟩
    have c9 : w1.cell? ⟨w.heap.size, 9, none⟩ = some (.string ⟨s.toArray⟩) := at_cell ((hB1.block _ (at_lt HX.out)).trans HX.out) 9
    have HW1 := Lib.hid hW
    have HKW := Lib.hid hkw
    have HB1 := Lib.hid hB1
    clear hW hkw hB1
    go_wp2_with fail
    refine (read_any s hs w1).mono ?_
    rintro e w2 ⟨v, rfl, hM, hB2⟩
    obtain ⟨cd, hcd⟩ : ∃ cd, rC s = cd := ⟨_, rfl⟩
    rw [hcd]
    have HCD := Lib.hid hcd
    have HB2 := Lib.hid hB2
    have hkw1 := at_lt HW1.out
    obtain ⟨p, cp, rfl, hF⟩ := mine_keeps (S := fun i => i = kw ∨ i = w2.heap.size) hM (fun g hg => by
      have := own_lt hM hg
      rintro (e | e) <;> omega)
    have HF := Lib.hid hF
    have hb := HKW.out
    have hz := HSZ.out
    have hs1 := HB1.out.size
    have hs2 := hB2.size
    clear hM hB2 hF hcd c9
    by_cases h0 : cd = 0
    · subst h0
      obtain ⟨m, hm⟩ : ∃ m, (rV s).length = m := ⟨_, rfl⟩
      have HM := Lib.hid hm
      rw [hm]
      clear hm
      go_wp2_with fail
      go_ret2
      refine .inr ⟨HCO.out.trans HCD.out, w2.heap.size, (fun i => i = kw ∨ i = w2.heap.size), rfl, ⟨kw, p, cp, .pointer none, ?_⟩, ?_, ?_⟩
      · have hWt : IsW w2 kw b c j 1 := HW1.out.below HB2.out
        refine ⟨?_, .inr rfl, .inl rfl, by omega, at_old _ _ hWt, ?_, ?_, ?_, good_mk HOK.out HCD.out⟩
        · rw [show (mk b c j (rV s)).F.length = m from HM.out]
          exact at_new w2 _
        · rintro i (rfl | rfl)
          · simp; omega
          · simp
        · intro W' hW'
          exact HF.out W' (Out.trans (S' := fun i => i = kw ∨ i = w2.heap.size) ((Out.refl _ w2).alloc _) hW' fun _ _ h => h)
        · intro hg
          rcases hg with e | e <;> simp [mk] at e
      · rintro i (rfl | rfl) <;> omega
      · exact (((HA.out.trans (HB1.out.mono (by omega))).trans (HB2.out.mono (by omega))).alloc (by omega) _)
    · have h0b : (cd == 0) = false := by simpa using h0
      have H0 := Lib.hid h0
      clear h0
      go_wp2_with fail
      go_ret2
      exact .inl ⟨by rw [HCO.out, HCD.out]; exact H0.out, by rw [HCO.out, HCD.out]; rfl, (HA.out.trans (HB1.out.mono (by omega))).trans (HB2.out.mono (by omega))⟩
  · have HNO : Hid (newC b c j s = 2) := Lib.hid (by unfold newC; rw [if_neg hok])
    have HOK := Lib.hid hok
    clear hok
    refine (Bkf.new_no b c j HOK.out W).mono ?_
    rintro e w1 ⟨rfl, hB1⟩
    have HB1 := Lib.hid hB1
    clear hB1
    go_wp2_with fail
    go_ret2
    exact .inl ⟨by rw [HNO.out]; omega, by rw [HNO.out]; rfl, HA.out.trans (HB1.out.mono (by have := HSZ.out; omega))⟩
end Go.Proofs.YtnkhdpenmekhdaaGreat.Lin
end

section
namespace Go.Proofs.YtnkhdpenmekhdaaGreat.Brk
open Go.Proofs.YtnkhdpenmekhdaaGreat.Digit

def Wm (l : List UInt8) (n : Nat) : Prop := 4 ≤ l.length ∧ l.take 4 = 92 :: 119 :: two n
def Am (l : List UInt8) (n : Nat) : Prop := 4 ≤ l.length ∧ l.take 4 = 92 :: 120 :: hexS n
def Bm (l : List UInt8) (n : Nat) : Prop := (sgn n).length = 2 ∧ 2 ≤ l.length ∧ l.take 2 = sgn n
theorem bm_iff (d : UInt8) (r : List UInt8) (n : Nat) : Bm (92 :: d :: r) n ↔ (n = 92 ∧ d = 92) ∨ (n = 10 ∧ d = 110) ∨ (n = 13 ∧ d = 114) ∨ (n = 9 ∧ d = 116) := by
  have e : (92 :: d :: r).take 2 = [92, d] := by simp
  unfold Bm
  rw [e]
  constructor
  · rintro ⟨h1, -, h2⟩
    by_cases e1 : n = 92
    · subst e1; exact .inl ⟨rfl, (List.cons.inj (List.cons.inj h2).2).1⟩
    by_cases e2 : n = 10
    · subst e2; exact .inr (.inl ⟨rfl, (List.cons.inj (List.cons.inj h2).2).1⟩)
    by_cases e3 : n = 13
    · subst e3; exact .inr (.inr (.inl ⟨rfl, (List.cons.inj (List.cons.inj h2).2).1⟩))
    by_cases e4 : n = 9
    · subst e4; exact .inr (.inr (.inr ⟨rfl, (List.cons.inj (List.cons.inj h2).2).1⟩))
    rw [sgn_other e1 e2 e3 e4] at h1
    split at h1
    · simp [hexS] at h1
    · simp at h1
  · have hl : 2 ≤ (92 :: d :: r).length := by simp
    rintro (⟨rfl, rfl⟩ | ⟨rfl, rfl⟩ | ⟨rfl, rfl⟩ | ⟨rfl, rfl⟩)
    · exact ⟨rfl, hl, rfl⟩
    · exact ⟨rfl, hl, rfl⟩
    · exact ⟨rfl, hl, rfl⟩
    · exact ⟨rfl, hl, rfl⟩
theorem take4 (d : UInt8) (r : List UInt8) : (92 :: d :: r).take 4 = 92 :: d :: r.take 2 := rfl
theorem am_iff (d : UInt8) (r : List UInt8) (n : Nat) : Am (92 :: d :: r) n ↔ d = 120 ∧ r.take 2 = hexS n := by
  unfold Am
  rw [take4]
  constructor
  · rintro ⟨_, h⟩
    have h1 := List.cons.inj (List.cons.inj h).2
    exact ⟨h1.1, h1.2⟩
  · rintro ⟨rfl, h⟩
    have hl := congrArg List.length h
    rw [List.length_take] at hl
    have : (hexS n).length = 2 := rfl
    exact ⟨by simp only [List.length_cons]; omega, by rw [h]⟩
theorem wm_iff (d : UInt8) (r : List UInt8) (n : Nat) : Wm (92 :: d :: r) n ↔ d = 119 ∧ r.take 2 = two n := by
  unfold Wm
  rw [take4]
  constructor
  · rintro ⟨_, h⟩
    have h1 := List.cons.inj (List.cons.inj h).2
    exact ⟨h1.1, h1.2⟩
  · rintro ⟨rfl, h⟩
    have hl := congrArg List.length h
    rw [List.length_take] at hl
    have : (two n).length = 2 := rfl
    exact ⟨by simp only [List.length_cons]; omega, by rw [h]⟩
/-- what the second loop finds -/
def Ways (l : List UInt8) : Prop :=
  (∃ M, M < 256 ∧ (∀ k, k < M → ¬ Am l k ∧ ¬ Bm l k) ∧ ((Am l M ∧ one l = (⟨1, [M.toUInt8], 0⟩, 4)) ∨ (¬ Am l M ∧ Bm l M ∧ one l = (⟨1, [M.toUInt8], 0⟩, 2)))) ∨
  ((∀ k, k < 256 → ¬ Am l k ∧ ¬ Bm l k) ∧ one l = no)
theorem way_two {d : UInt8} {r : List UInt8} (M : Nat) (hM : M < 256) (h0 : d ≠ 120) (hu : ∀ k, Bm (92 :: d :: r) k ↔ k = M) (h : esc d r = (⟨1, [M.toUInt8], 0⟩, 2)) : Ways (92 :: d :: r) := by
  have ha : ∀ k, ¬ Am (92 :: d :: r) k := fun k g => h0 ((am_iff d r k).1 g).1
  refine .inl ⟨M, hM, fun k hk => ⟨ha k, fun g => by have := (hu k).1 g; omega⟩, .inr ⟨ha M, (hu M).2 rfl, by rw [one_esc]; exact h⟩⟩
theorem way_none {d : UInt8} {r : List UInt8} (h0 : d ≠ 120) (hu : ∀ k, ¬ Bm (92 :: d :: r) k) (h : esc d r = no) : Ways (92 :: d :: r) :=
  .inr ⟨fun k _ => ⟨fun g => h0 ((am_iff d r k).1 g).1, hu k⟩, by rw [one_esc]; exact h⟩
theorem ref_ways (t : List UInt8) (h1 : ∀ r, t ≠ 100 :: r) (h2 : ∀ r, t ≠ 122 :: r) :
    (∃ n, 1 ≤ n ∧ n ≤ 99 ∧ Wm (92 :: t) n ∧ (∀ k, k < n → ¬ Wm (92 :: t) k) ∧ one (92 :: t) = (⟨2, [], n⟩, 4)) ∨
    ((∀ k, 1 ≤ k → k ≤ 99 → ¬ Wm (92 :: t) k) ∧ Ways (92 :: t)) := by
  match t with
  | [] =>
    refine .inr ⟨fun k _ _ h => ?_, .inr ⟨fun k _ => ⟨fun h => ?_, fun h => ?_⟩, one_lone⟩⟩
    · have := h.1; simp at this
    · have := h.1; simp at this
    · have := h.2.1; simp at this
  | d :: r =>
    have nw : d ≠ 119 → ∀ k, 1 ≤ k → k ≤ 99 → ¬ Wm (92 :: d :: r) k := fun h k _ _ g => h ((wm_iff d r k).1 g).1
    by_cases e1 : d = 92
    · refine .inr ⟨nw (by rw [e1]; decide), way_two 92 (by omega) (by rw [e1]; decide) (fun k => ?_) (if_pos e1)⟩
      rw [bm_iff, e1]; simp
    by_cases e2 : d = 114
    · refine .inr ⟨nw (by rw [e2]; decide), way_two 13 (by omega) (by rw [e2]; decide) (fun k => ?_) ((if_neg e1).trans (if_pos e2))⟩
      rw [bm_iff, e2]; simp
    by_cases e3 : d = 110
    · refine .inr ⟨nw (by rw [e3]; decide), way_two 10 (by omega) (by rw [e3]; decide) (fun k => ?_) ((if_neg e1).trans ((if_neg e2).trans (if_pos e3)))⟩
      rw [bm_iff, e3]; simp
    by_cases e4 : d = 116
    · refine .inr ⟨nw (by rw [e4]; decide), way_two 9 (by omega) (by rw [e4]; decide) (fun k => ?_) ((if_neg e1).trans ((if_neg e2).trans ((if_neg e3).trans (if_pos e4))))⟩
      rw [bm_iff, e4]; simp
    have hb : ∀ k, ¬ Bm (92 :: d :: r) k := fun k => by rw [bm_iff]; simp [e1, e2, e3, e4]
    have e5 : d ≠ 100 := fun e => h1 r (by rw [e])
    have e6 : d ≠ 122 := fun e => h2 r (by rw [e])
    have he : esc d r = if d = 120 then (if rhC (r.take 2) = 0 then (⟨1, [(rhV (r.take 2)).toNat.toUInt8], 0⟩, 4) else no) else if d = 119 then (if tk (r.take 2) = 0 then no else (⟨2, [], tk (r.take 2)⟩, 4)) else no := by
      unfold esc
      rw [if_neg e1, if_neg e2, if_neg e3, if_neg e4, if_neg e5, if_neg e6]
    by_cases e7 : d = 120
    · rw [if_pos e7] at he
      refine .inr ⟨nw (by rw [e7]; decide), ?_⟩
      by_cases hc : rhC (r.take 2) = 0
      · rw [if_pos hc] at he
        obtain ⟨c, hc2, hx, hv⟩ := rh_is hc
        refine .inl ⟨c, hc2, fun k hk => ⟨fun g => ?_, hb k⟩, .inl ⟨(am_iff d r c).2 ⟨e7, hx.symm⟩, ?_⟩⟩
        · have := ((am_iff d r k).1 g).2
          have := hexS_inj (by omega) hc2 (this.symm.trans hx.symm)
          omega
        · rw [one_esc, he, hv]; simp
      · rw [if_neg hc] at he
        refine .inr ⟨fun k hk => ⟨fun g => hc ?_, hb k⟩, by rw [one_esc]; exact he⟩
        rw [((am_iff d r k).1 g).2]; exact (rh_some hk).2
    rw [if_neg e7] at he
    by_cases e8 : d = 119
    · rw [if_pos e8] at he
      by_cases hc : tk (r.take 2) = 0
      · rw [if_pos hc] at he
        refine .inr ⟨fun k k1 k2 g => ?_, way_none e7 hb he⟩
        have := ((wm_iff d r k).1 g).2
        rw [this, tk_some k1 k2] at hc
        omega
      · rw [if_neg hc] at he
        obtain ⟨t1, t2, t3⟩ := tk_is hc
        refine .inl ⟨tk (r.take 2), t1, t2, (wm_iff d r _).2 ⟨e8, t3.symm⟩, fun k hk g => ?_, by rw [one_esc]; exact he⟩
        have := ((wm_iff d r k).1 g).2
        have := two_inj (by omega) t2 (this.symm.trans t3.symm)
        omega
    · rw [if_neg e8] at he
      exact .inr ⟨nw e8, way_none e7 hb he⟩
end Go.Proofs.YtnkhdpenmekhdaaGreat.Brk
end

section
namespace Go.Proofs.YtnkhdpenmekhdaaGreat.Brk
open Go.RowKit Go.Proofs.YtnkhdpenmekhdaaGreat.Digit Go.Proofs.YtnkhdpenmekhdaaGreat.Own

def ropE (r : Op × Nat) : Ending := .returned (.tuple #[.agg #[.int .i64 r.1.k, .string ⟨r.1.s.toArray⟩, .int .i64 r.1.n], .int .i64 r.2])
theorem cut_first (s : ByteArray) (k : Nat) (hk : k ≤ s.size) (W : World) :
    (Instr.sliceAt 9 (.string s) none (some (.int .i64 k)) none).run Tryz.prog W = .ok (.string ⟨(s.data.toList.take k).toArray⟩) W := by
  rw [run_sliceAt_string W 9 _ _ _ _ Tryz.underlying9, run_slice_string_to_if W 9 s .i64 k Tryz.underlying9, if_pos ⟨by omega, by omega⟩]
  have e : s.extract 0 k = ⟨(s.data.toList.take k).toArray⟩ := by
    apply ByteArray.ext; apply Array.toList_inj.1; simp [List.extract_eq_take_drop]
  rw [Int.toNat_natCast, e]
theorem rpad_two (n : Nat) (h : n ≤ 99) (w : World) : Calls Tryz.prog 63 #[.int .i64 n, .int .i64 2] w fun e w' => e = .returned (.string ⟨(two n).toArray⟩) ∧ w' = w := by
  refine (rpad_calls n 2 (by omega) (by omega) w).mono ?_
  rintro e w' ⟨rfl, rfl⟩
  rw [pad_two h]; exact ⟨rfl, rfl⟩
theorem rhex_one (n : Nat) (h : n < 256) (w : World) : Calls Tryz.prog 64 #[.int .u8 n] w fun e w' => e = .returned (.string ⟨(hexS n).toArray⟩) ∧ w = w' := by
  have := rhex_calls n (by omega) (by omega) w
  rwa [Int.toNat_natCast] at this
theorem rshow_one (n : Nat) (h : n < 256) (w : World) : Calls Tryz.prog 65 #[.string ⟨#[(n : Int).toNat.toUInt8]⟩] w fun e w' => e = .returned (.string ⟨(sgn n).toArray⟩) ∧ Below w.heap.size w w' := by
  have := rshow_calls ⟨#[(n : Int).toNat.toUInt8]⟩ (by show 1 ≤ _; omega) w
  have e : shw (⟨#[(n : Int).toNat.toUInt8]⟩ : ByteArray).data.toList = sgn n := by
    show shw [(n : Int).toNat.toUInt8] = _
    rw [shw_cons]
    have : (n : Int).toNat.toUInt8.toNat = n := by simp; omega
    rw [this]; simp [shw]
  rwa [e] at this

set_option maxRecDepth 100000 in
set_option maxHeartbeats 4000000 in
theorem rone_plain (s : ByteArray) (h1 : 0 < s.size) (h0 : ¬ (s[0].toNat : Int) = 92) (w : World) :
    Calls Tryz.prog 49 #[.string s] w fun e w' => e = ropE (one s.data.toList) ∧ Below w.heap.size w w' := by
  have e0 : s[0] ≠ 92 := ne_byte (n := 92) h0 (by omega)
  obtain ⟨t, e⟩ := list_one s h1
  have b0 : ((s[0].toNat : Int) != 92) = true := by simpa using h0
  by_cases hc : 32 ≤ (s[0].toNat : Int) ∧ (s[0].toNat : Int) ≤ 126
  · obtain ⟨q1, q2⟩ := hc
    have H := Lib.hid (show one s.data.toList = (⟨1, [s[0]], 0⟩, 1) by rw [e]; exact one_plain t (by omega) (by omega) e0)
    have HX := Lib.hid (show s.extract 0 1 = ⟨#[s[0]]⟩ by
      apply ByteArray.ext
      apply Array.toList_inj.1
      simp [ByteArray.data_extract, List.extract_eq_take_drop, e])
    have q3 : ¬ (s[0].toNat : Int) < 32 := by omega
    have q4 : ¬ 126 < (s[0].toNat : Int) := by omega
    clear e0 e h0
    go_enter Tryz.func49, Tryz.ntmps49
    go_wp2_with fail
    refine bodyPost_ret (v := .tuple #[.agg #[.int .i64 1, .string (s.extract 0 1), .int .i64 0], .int .i64 1]) ?_ rfl ⟨by rw [H.out, HX.out]; rfl, (Below.refl _ _).alloc (Nat.le_refl _) _⟩
    simp [results, Tryz.results49, go_sem, *]
  · have H := Lib.hid (show one s.data.toList = no by rw [e]; exact one_bad t (fun g => hc ⟨by omega, by omega⟩) e0)
    clear e0 e h0
    rcases (show (s[0].toNat : Int) < 32 ∨ (¬ (s[0].toNat : Int) < 32 ∧ 126 < (s[0].toNat : Int)) by omega) with q | ⟨q, q2⟩
    all_goals
      clear hc
      go_enter Tryz.func49, Tryz.ntmps49
      go_wp2_with fail
      refine bodyPost_ret (v := .tuple #[.agg #[.int .i64 0, .string ⟨#[]⟩, .int .i64 0], .int .i64 0]) ?_ rfl ⟨by rw [H.out]; rfl, (Below.refl _ _).alloc (Nat.le_refl _) _⟩
      simp [results, Tryz.results49, go_sem, *]

set_option maxRecDepth 100000 in
set_option maxHeartbeats 4000000 in
theorem rone_quick (s : ByteArray) (h1 : 2 ≤ s.size) (h0 : (s[0].toNat : Int) = 92) (h : (s[1].toNat : Int) = 100 ∨ (s[1].toNat : Int) = 122) (w : World) :
    Calls Tryz.prog 49 #[.string s] w fun e w' => e = ropE (one s.data.toList) ∧ Below w.heap.size w w' := by
  have e0 : s[0] = 92 := eq_byte (n := 92) h0
  have b0 : ((s[0].toNat : Int) != 92) = false := by simp [h0]
  have e := list_three s (by omega)
  rcases h with h | h
  · have H := Lib.hid (show one s.data.toList = (⟨2, [], 1⟩, 2) by rw [e, e0, eq_byte (n := 100) h]; exact one_esc 100 _)
    clear e0 e
    go_enter Tryz.func49, Tryz.ntmps49
    go_wp2_with fail
    refine bodyPost_ret (v := .tuple #[.agg #[.int .i64 2, .string ⟨#[]⟩, .int .i64 1], .int .i64 2]) ?_ rfl ⟨by rw [H.out]; rfl, (Below.refl _ _).alloc (Nat.le_refl _) _⟩
    simp [results, Tryz.results49, go_sem, *]
  · have H := Lib.hid (show one s.data.toList = (⟨3, [], 0⟩, 2) by rw [e, e0, eq_byte (n := 122) h]; exact one_esc 122 _)
    clear e0 e
    go_enter Tryz.func49, Tryz.ntmps49
    go_wp2_with fail
    refine bodyPost_ret (v := .tuple #[.agg #[.int .i64 3, .string ⟨#[]⟩, .int .i64 0], .int .i64 2]) ?_ rfl ⟨by rw [H.out]; rfl, (Below.refl _ _).alloc (Nat.le_refl _) _⟩
    simp [results, Tryz.results49, go_sem, *]
end Go.Proofs.YtnkhdpenmekhdaaGreat.Brk
end


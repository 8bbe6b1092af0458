/-
  Layer 8 (record): the law's example.
-/
import Derived.Test.YtfdpmbnjjnmdiaaRecRefScan
namespace Go.Proofs.Ytfdpmbnjjnmdiaa.Rec
open Go.RowKit Go.Proofs.Ytfdpmbnjjnmdiaa.Sum Go.Proofs.Ytfdpmbnjjnmdiaa.Own

def X : Itm := ⟨1, 258, ⟨#[104, 105]⟩⟩
theorem x_ok : chk X = 0 := by decide
theorem x_bytes : bytesOf X = [87, 1, 0, 0, 0, 0, 1, 2, 0, 2, 104, 105, 108, 103, 124, 28] := by decide
def S0 : List UInt8 := [87, 1, 0, 0, 0, 0, 1, 2, 0, 2, 104, 105, 108, 103, 124, 28]
theorem r1 : rdC (S0 ++ [87]) = 0 ∧ rdX (S0 ++ [87]) = X ∧ rdN (S0 ++ [87]) = 16 := by
  have := read_put x_ok [87]
  rw [x_bytes] at this
  exact this
theorem r2 : rdC (S0.take 15) = 13 := by decide
theorem r3 : rdC (S0.take 15 ++ [126]) = 4 := by decide
theorem r4 : rdC [119] = 3 := by decide
theorem r5 : scan (S0 ++ S0 ++ S0.take 9) = ([X, X], 32) := by
  have h := scan_torn (l := [X, X, X]) (fun x hx => by simp at hx; subst hx; exact x_ok) 41
  have e : (flat [X, X, X]).take 41 = S0 ++ S0 ++ S0.take 9 := by
    rw [flat_cons, flat_cons, flat_cons, x_bytes]; rfl
  rw [e] at h
  exact h

theorem list_app (s t : ByteArray) : (s ++ t).data.toList = s.data.toList ++ t.data.toList := by simp [ByteArray.data_append]
/-- what is asked of Read in the example -/
def Told (s : ByteArray) (k a : Int) (b : ByteArray) (n c : Int) : Prop := ∀ W, Calls Try.prog 12 #[.string s] W fun e w' => e = .returned (.tuple #[.agg #[.int .i64 k, .int .i64 a, .string b], .int .i64 n, .int .i64 c]) ∧ Below W.heap.size W w'
theorem told_no {s : ByteArray} {c : Int} (hs : s.size ≤ 4611686018427387904) (h : rdC s.data.toList = c) (hc : c ≠ 0) : Told s 0 0 ⟨#[]⟩ 0 c := fun W => by
  have := read_no s hs (by rw [h]; exact hc) W
  rw [h] at this
  exact this

theorem idx15 {P : Program} (t : TypeId) (ht : P.underlying t = some .string) (s : ByteArray) (c : UInt8) (h : s.data.toList[15]? = some c) (W : World) : (Instr.index t (.string s) (.int .i64 15)).run P W = .ok (.int .u8 (c.toNat : Int)) W := by
  obtain ⟨hl, he⟩ := List.getElem?_eq_some_iff.1 h
  have hi : 0 ≤ (15 : Int) ∧ (15 : Int) < (s.size : Int) := by rw [size_list] at hl; omega
  rw [run_index_string W _ s _ _ ht, dif_pos hi, ← he]
  rfl

set_option maxRecDepth 100000 in
set_option maxHeartbeats 4000000 in
theorem works_calls (w : World) :
    Calls Try.prog 7 #[] w fun e w' => e = .returned (.bool true) ∧ Below w.heap.size w w' := by
  have hB := Below.refl w.heap.size w
  obtain ⟨S, hS⟩ : ∃ S : ByteArray, S = ⟨S0.toArray⟩ := ⟨_, rfl⟩
  have hl : S.data.toList = S0 := by rw [hS]
  have HP : Hid (∀ W, Calls Try.prog 8 #[.agg #[.int .i64 1, .int .i64 258, .string ⟨#[104, 105]⟩]] W fun e w' => e = .returned (.tuple #[.string S, .int .i64 0]) ∧ Below W.heap.size W w') := Lib.hid fun W => (put_calls 1 258 ⟨#[104, 105]⟩ W).mono fun e w' h => by
    obtain ⟨rfl, hb⟩ := h
    refine ⟨?_, hb⟩
    have e1 : chk ⟨1, 258, ⟨#[104, 105]⟩⟩ = 0 := x_ok
    have e2 : putV ⟨1, 258, ⟨#[104, 105]⟩⟩ = S0 := (putV_ok x_ok).trans x_bytes
    rw [e1, e2, hS]
  have HP2 : Hid (∀ W, Calls Try.prog 8 #[.agg #[.int .i64 16, .int .i64 0, .string ⟨#[]⟩]] W fun e w' => e = .returned (.tuple #[.string ⟨#[]⟩, .int .i64 1]) ∧ Below W.heap.size W w') := Lib.hid fun W => (put_calls 16 0 ⟨#[]⟩ W).mono fun e w' h => by
    obtain ⟨rfl, hb⟩ := h
    refine ⟨?_, hb⟩
    have e1 : chk ⟨16, 0, ⟨#[]⟩⟩ = 1 := by decide
    have e2 : putV ⟨16, 0, ⟨#[]⟩⟩ = [] := putV_no (by rw [e1]; decide)
    rw [e1, e2]
  have hsz : S.size = 16 := by rw [hS]; rfl
  have R1 : Hid (Told (S ++ ⟨#[87]⟩) 1 258 ⟨#[104, 105]⟩ 16 0) := Lib.hid (fun W => read_yes _ (by rw [← size_list, list_app, hl]; decide) (by rw [list_app, hl]; exact r1.1) X 16 (by rw [list_app, hl]; exact r1.2.1) (by rw [list_app, hl]; exact r1.2.2) W)
  obtain ⟨T, hT⟩ : ∃ T : ByteArray, T = S.extract 0 15 := ⟨_, rfl⟩
  have hTl : T.data.toList = S0.take 15 := by rw [hT, extract_list, hl, List.drop_zero]
  have R2 : Hid (Told T 0 0 ⟨#[]⟩ 0 13) := Lib.hid (told_no (by rw [← size_list, hTl]; decide) (by rw [hTl]; exact r2) (by decide))
  have R3 : Hid (Told (T ++ ⟨#[126]⟩) 0 0 ⟨#[]⟩ 0 4) := Lib.hid (told_no (by rw [← size_list, list_app, hTl]; decide) (by rw [list_app, hTl]; exact r3) (by decide))
  have R4 : Hid (Told ⟨#[119]⟩ 0 0 ⟨#[]⟩ 0 3) := Lib.hid (told_no (by decide) r4 (by decide))
  obtain ⟨U, hU⟩ : ∃ U : ByteArray, U = S.extract 0 9 := ⟨_, rfl⟩
  have hUl : U.data.toList = S0.take 9 := by rw [hU, extract_list, hl, List.drop_zero]
  have R5 : Hid (∀ W, Calls Try.prog 14 #[.string (S ++ S ++ U)] W fun e w' => (∃ A c, e = .returned (.tuple #[.slice A 2 c, .int .i64 32])) ∧ Below W.heap.size W w') := Lib.hid fun W => (scan_calls _ (by rw [← size_list, list_app, list_app, hl, hUl]; decide) W).mono fun e w' h => by
    obtain ⟨v, rfl, ho, hb⟩ := h
    rw [list_app, list_app, hl, hUl, r5] at ho ⊢
    refine ⟨?_, hb⟩
    rcases ho.2 with ⟨_, h0⟩ | ⟨g, cap, cur, rfl, _⟩
    · exact absurd h0 (by decide)
    · exact ⟨_, _, rfl⟩
  have hc15 : ∀ W, (Instr.sliceAt 9 (.string S) none (some (.int .i64 15)) none).run Try.prog W = .ok (.string T) W := fun W => by
    rw [hT]; exact cut_to 9 Try.underlying9 S 15 (by omega) (by rw [hsz]; omega) W
  have hc9 : ∀ W, (Instr.sliceAt 9 (.string S) none (some (.int .i64 9)) none).run Try.prog W = .ok (.string U) W := fun W => by
    rw [hU]; exact cut_to 9 Try.underlying9 S 9 (by omega) (by rw [hsz]; omega) W
  have h10 : S.extract 0 (10 : Int).toNat = ⟨#[87, 1, 0, 0, 0, 0, 1, 2, 0, 2]⟩ := by rw [hS]; rfl
  have hc10 : ∀ W, (Instr.sliceAt 9 (.string S) none (some (.int .i64 10)) none).run Try.prog W = .ok (.string ⟨#[87, 1, 0, 0, 0, 0, 1, 2, 0, 2]⟩) W := fun W => by
    rw [← h10]; exact cut_to 9 Try.underlying9 S 10 (by omega) (by rw [hsz]; omega) W
  have hix := idx15 (P := Try.prog) 9 Try.underlying9 S 28 (by rw [hl]; rfl)
  have hts : T.size ≤ 15 := by rw [← size_list, hTl]; decide
  have hus : U.size ≤ 9 := by rw [← size_list, hUl]; decide
  clear hS hl hT hTl hU hUl h10
  go_enter Try.func7, Try.ntmps7
  go_wp2_with fail
  refine (HP.out _).mono ?_
  rintro e w1 ⟨rfl, hb1⟩
  replace hB := hB.trans (hb1.mono hB.size); clear hb1
  go_wp2_with fail
  refine (R1.out _).mono ?_
  rintro e w2 ⟨rfl, hb2⟩
  replace hB := hB.trans (hb2.mono hB.size); clear hb2
  have n2 := hB.size
  have HB := Lib.hid (hB.alloc n2 (.cells #[.int .i64 1, .int .i64 258, .string ⟨#[104, 105]⟩] 23 (0, 0)))
  have HX := Lib.hid (at_new w2 (.cells #[.int .i64 1, .int .i64 258, .string ⟨#[104, 105]⟩] 23 (0, 0)))
  clear hB
  go_wp2_with fail
  generalize w2.alloc (.cells #[.int .i64 1, .int .i64 258, .string ⟨#[104, 105]⟩] 23 (0, 0)) = W2 at HB HX ⊢
  generalize w2.heap.size = g at *
  refine (R2.out _).mono ?_
  rintro e w3 ⟨rfl, hb⟩
  have n3 := (HB.out.trans (hb.mono HB.out.size)).size
  replace HB := Lib.hid ((HB.out.trans (hb.mono HB.out.size)).alloc n3 (.cells #[.int .i64 0, .int .i64 0, .string ⟨#[]⟩] 23 (0, 0)))
  replace HX := Lib.hid (at_old w3 (.cells #[.int .i64 0, .int .i64 0, .string ⟨#[]⟩] 23 (0, 0)) ((hb.block g (at_lt HX.out)).trans HX.out))
  clear hb
  go_wp2_with fail
  generalize w3.alloc (.cells #[.int .i64 0, .int .i64 0, .string ⟨#[]⟩] 23 (0, 0)) = W3 at HB HX ⊢
  generalize w3.heap.size = g3 at *
  refine (R3.out _).mono ?_
  rintro e w4 ⟨rfl, hb⟩
  have n4 := (HB.out.trans (hb.mono HB.out.size)).size
  replace HB := Lib.hid ((HB.out.trans (hb.mono HB.out.size)).alloc n4 (.cells #[.int .i64 0, .int .i64 0, .string ⟨#[]⟩] 23 (0, 0)))
  replace HX := Lib.hid (at_old w4 (.cells #[.int .i64 0, .int .i64 0, .string ⟨#[]⟩] 23 (0, 0)) ((hb.block g (at_lt HX.out)).trans HX.out))
  clear hb
  go_wp2_with fail
  generalize w4.alloc (.cells #[.int .i64 0, .int .i64 0, .string ⟨#[]⟩] 23 (0, 0)) = W4 at HB HX ⊢
  generalize w4.heap.size = g4 at *
  refine (R4.out _).mono ?_
  rintro e w5 ⟨rfl, hb⟩
  have n5 := (HB.out.trans (hb.mono HB.out.size)).size
  replace HB := Lib.hid ((HB.out.trans (hb.mono HB.out.size)).alloc n5 (.cells #[.int .i64 0, .int .i64 0, .string ⟨#[]⟩] 23 (0, 0)))
  replace HX := Lib.hid (at_old w5 (.cells #[.int .i64 0, .int .i64 0, .string ⟨#[]⟩] 23 (0, 0)) ((hb.block g (at_lt HX.out)).trans HX.out))
  clear hb
  go_wp2_with fail
  generalize w5.alloc (.cells #[.int .i64 0, .int .i64 0, .string ⟨#[]⟩] 23 (0, 0)) = W5 at HB HX ⊢
  generalize w5.heap.size = g5 at *
  refine (R5.out _).mono ?_
  rintro e w6 ⟨⟨A, c, rfl⟩, hb⟩
  replace HX := Lib.hid ((hb.block g (at_lt HX.out)).trans HX.out)
  replace HB := Lib.hid (HB.out.trans (hb.mono HB.out.size))
  clear hb
  go_wp2_with fail
  refine (HP2.out _).mono ?_
  rintro e w7 ⟨rfl, hb⟩
  have hX := (hb.block g (at_lt HX.out)).trans HX.out
  replace HB := Lib.hid (HB.out.trans (hb.mono HB.out.size))
  clear hb HX
  obtain ⟨x0, x1, x2⟩ := box3 hX
  clear hX
  go_wp2_with fail
  go_ret
  exact ⟨rfl, HB.out⟩

end Go.Proofs.Ytfdpmbnjjnmdiaa.Rec

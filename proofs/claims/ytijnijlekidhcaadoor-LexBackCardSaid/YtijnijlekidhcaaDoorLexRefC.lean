/-
  Layer 12 (lex): the document's one, walked.
-/
import Derived.Test.YtijnijlekidhcaaDoorLexRefB
namespace Go.Proofs.YtijnijlekidhcaaDoor.Lex
open Go.RowKit Go.Proofs.YtijnijlekidhcaaDoor.Own

theorem extract_two (s : ByteArray) (a j : Nat) : s.extract a j = ⟨((s.data.toList.drop a).take (j - a)).toArray⟩ := by
  rw [← extract_list]
def RonePost (s : ByteArray) (a : Nat) (ln : Int) (w : World) (e : Ending) (w' : World) : Prop :=
  ∃ (k : Int) (t : List UInt8) (g : Int) (n : Nat) (b : Bool), e = .returned (.tuple #[.agg #[.int .i64 k, .string ⟨t.toArray⟩, .int .i64 g], .int .i64 n, .bool b]) ∧ Below w.heap.size w w' ∧
    (b = false ∧ first (s.data.toList.drop a) = none ∨ b = true ∧ g = ln ∧ ∃ m, first (s.data.toList.drop a) = some (k, t, m) ∧ 0 < m ∧ n = a + m)

set_option maxRecDepth 100000 in
set_option maxHeartbeats 4000000 in
theorem rone_calls (s : ByteArray) (hs : s.size ≤ 1099511627776) (a : Nat) (ha : a < s.size) (ln : Int) (w : World) :
    Calls Tryd.prog 22 #[.string s, .int .i64 a, .int .i64 ln] w (RonePost s a ln w) := by
  have HD := Lib.hid (drop_at s a ha)
  have q1 : (a : Int) < (s.size : Int) := by omega
  have k1 : (a : Int) ≤ 1099511627776 := by omega
  have HU := Lib.hid (rquote_calls s hs a ha)
  have HB := Lib.hid (fun o => (Below.refl w.heap.size w).alloc (Nat.le_refl _) o)
  obtain ⟨n, hn⟩ : ∃ n, s[a].toNat = n := ⟨_, rfl⟩
  have HN := Lib.hid hn
  rcases (show n = 123 ∨ n = 125 ∨ n = 59 ∨ n = 34 ∨ (n ≠ 123 ∧ n ≠ 125 ∧ n ≠ 59 ∧ n ≠ 34) by omega) with hc | hc | hc | hc | hc
  · have HF := Lib.hid (show first (s.data.toList.drop a) = some (3, [], 1) by rw [HD.out]; exact first_open (by omega) _)
    subst hc
    go_enter Tryd.func22, Tryd.ntmps22
    go_wp2_with fail
    refine bodyPost_ret (v := .tuple #[.agg #[.int .i64 3, .string ⟨#[]⟩, .int .i64 ln], .int .i64 (a + 1), .bool true]) ?_ rfl ⟨3, [], ln, a + 1, true, by go_num, HB.out _, .inr ⟨rfl, rfl, 1, HF.out, by omega, rfl⟩⟩
    simp [results, Tryd.results22, go_sem, *]
  · have HF := Lib.hid (show first (s.data.toList.drop a) = some (4, [], 1) by rw [HD.out]; exact first_close (by omega) _)
    subst hc
    go_enter Tryd.func22, Tryd.ntmps22
    go_wp2_with fail
    refine bodyPost_ret (v := .tuple #[.agg #[.int .i64 4, .string ⟨#[]⟩, .int .i64 ln], .int .i64 (a + 1), .bool true]) ?_ rfl ⟨4, [], ln, a + 1, true, by go_num, HB.out _, .inr ⟨rfl, rfl, 1, HF.out, by omega, rfl⟩⟩
    simp [results, Tryd.results22, go_sem, *]
  · have HF := Lib.hid (show first (s.data.toList.drop a) = some (5, [], 1) by rw [HD.out]; exact first_semi (by omega) _)
    subst hc
    go_enter Tryd.func22, Tryd.ntmps22
    go_wp2_with fail
    refine bodyPost_ret (v := .tuple #[.agg #[.int .i64 5, .string ⟨#[]⟩, .int .i64 ln], .int .i64 (a + 1), .bool true]) ?_ rfl ⟨5, [], ln, a + 1, true, by go_num, HB.out _, .inr ⟨rfl, rfl, 1, HF.out, by omega, rfl⟩⟩
    simp [results, Tryd.results22, go_sem, *]
  · have HF := Lib.hid (show first (s.data.toList.drop a) = (unq false (s.data.toList.drop (a + 1))).map fun x => (2, x.1, x.2 + 1) by rw [HD.out]; exact first_quote (by omega) _)
    subst hc
    go_enter Tryd.func22, Tryd.ntmps22
    go_wp2_with (go_at_call 35; refine (HU.out _).mono ?_; rintro e w5 ⟨t, m, b, rfl, rfl, hx⟩; have HX := Lib.hid hx; clear hx)
    refine bodyPost_ret (v := .tuple #[.agg #[.int .i64 2, .string ⟨t.toArray⟩, .int .i64 ln], .int .i64 m, .bool b]) ?_ rfl ⟨2, t, ln, m, b, rfl, HB.out _, ?_⟩
    · simp [results, Tryd.results22, go_sem, *]
    · rcases HX.out with ⟨h1, h2⟩ | ⟨h1, m', h2, h3⟩
      · exact .inl ⟨h1, by rw [HF.out, h2]; rfl⟩
      · exact .inr ⟨h1, rfl, m' + 1, by rw [HF.out, h2]; rfl, by omega, by omega⟩
  · have b1 : ((n : Int) == 123) = false := by simp; omega
    have b2 : ((n : Int) == 125) = false := by simp; omega
    have b3 : ((n : Int) == 59) = false := by simp; omega
    have b4 : ((n : Int) == 34) = false := by simp; omega
    cases hw : wb n
    · have HF := Lib.hid (show first (s.data.toList.drop a) = none by rw [HD.out]; exact first_none (by omega) (by omega) (by omega) (by omega) (by rw [HN.out]; exact hw) _)
      clear hc
      go_enter Tryd.func22, Tryd.ntmps22
      go_wp2_with (go_at_call 28; refine (rplain_calls n _).mono ?_; rintro e w5 ⟨rfl, rfl⟩; rw [hw])
      refine bodyPost_ret (v := .tuple #[.agg #[.int .i64 0, .string ⟨#[]⟩, .int .i64 0], .int .i64 0, .bool false]) ?_ rfl ⟨0, [], 0, 0, false, rfl, HB.out _, .inl ⟨rfl, HF.out⟩⟩
      simp [results, Tryd.results22, go_sem, *]
    · have HF := Lib.hid (show first (s.data.toList.drop a) = some (1, (s.data.toList.drop a).take (wlen (s.data.toList.drop a)), wlen (s.data.toList.drop a)) by rw [HD.out]; exact first_word (by rw [HN.out]; exact hw) _)
      clear hc
      go_enter Tryd.func22, Tryd.ntmps22
      go_wp2_with (go_at_call 28; refine (rplain_calls n _).mono ?_; rintro e w5 ⟨rfl, rfl⟩; rw [hw])
      go_loop [12] (fun i => ∃ j : Nat, a ≤ j ∧ j ≤ s.size ∧ i = .int .i64 j ∧ Hid (wlen (s.data.toList.drop a) = j - a + wlen (s.data.toList.drop j))) (fun i => s.size - (intOf i).toNat)
      case atStart => exact ⟨a, Nat.le_refl _, by omega, rfl, Lib.hid (by simp)⟩
      case round =>
        obtain ⟨j, haj, hj, rfl, HJ⟩ := hrel
        have j1 : (j : Int) ≤ 1099511627776 := by omega
        have hcut := fun W => cut_mid (P := Tryd.prog) 9 Tryd.underlying9 s a j (by omega) (by omega) (by omega) W
        have HX := Lib.hid (extract_two s a j)
        by_cases hjl : j < s.size
        · have q2 : (j : Int) < (s.size : Int) := by omega
          have HD2 := Lib.hid (drop_at s j hjl)
          obtain ⟨m, hm⟩ : ∃ m, s[j].toNat = m := ⟨_, rfl⟩
          have HM := Lib.hid hm
          cases hwm : wb m
          · have hW := HJ.out
            rw [HD2.out, wlen_no (by rw [HM.out]; exact hwm), Nat.add_zero] at hW
            have hne : a ≠ j := by
              rintro rfl
              rw [hm] at hn; subst hn; rw [hw] at hwm; cases hwm
            have HF2 := Lib.hid (show first (s.data.toList.drop a) = some (1, (s.data.toList.drop a).take (j - a), j - a) by rw [HF.out, hW])
            clear hW
            go_wp2_with (go_at_call 28; refine (rplain_calls m _).mono ?_; rintro e w5 ⟨rfl, rfl⟩; rw [hwm])
            refine bodyPost_ret (v := .tuple #[.agg #[.int .i64 1, .string (s.extract a j), .int .i64 ln], .int .i64 j, .bool true]) ?_ rfl ⟨1, (s.data.toList.drop a).take (j - a), ln, j, true, by rw [HX.out], HB.out _, .inr ⟨rfl, rfl, j - a, HF2.out, by omega, by omega⟩⟩
            simp [results, Tryd.results22, go_sem, *]
          · have HW := Lib.hid (show wlen (s.data.toList.drop a) = j + 1 - a + wlen (s.data.toList.drop (j + 1)) by rw [HJ.out, HD2.out, wlen_yes (by rw [HM.out]; exact hwm)]; omega)
            go_wp2_with (go_at_call 28; refine (rplain_calls m _).mono ?_; rintro e w5 ⟨rfl, rfl⟩; rw [hwm])
            go_round
            case rel => exact ⟨j + 1, by omega, by omega, by go_num, HW⟩
            case measure => simp [intOf]; omega
        · obtain rfl : j = s.size := by omega
          have hW := HJ.out
          rw [drop_all s (Nat.le_refl _), wlen_nil, Nat.add_zero] at hW
          have HF2 := Lib.hid (show first (s.data.toList.drop a) = some (1, (s.data.toList.drop a).take (s.size - a), s.size - a) by rw [HF.out, hW])
          clear hW hjl
          go_wp2_with fail
          refine bodyPost_ret (v := .tuple #[.agg #[.int .i64 1, .string (s.extract a s.size), .int .i64 ln], .int .i64 s.size, .bool true]) ?_ rfl ⟨1, (s.data.toList.drop a).take (s.size - a), ln, s.size, true, by rw [HX.out], HB.out _, .inr ⟨rfl, rfl, s.size - a, HF2.out, by omega, by omega⟩⟩
          simp [results, Tryd.results22, go_sem, *]
end Go.Proofs.YtijnijlekidhcaaDoor.Lex

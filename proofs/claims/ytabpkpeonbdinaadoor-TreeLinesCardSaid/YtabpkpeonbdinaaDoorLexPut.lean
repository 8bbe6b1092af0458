/-
  Layer 12 (lex): quote, Put, walked.
-/
import Derived.Test.YtabpkpeonbdinaaDoorLexQuote
import Derived.Deep.RegionHeld3
import Derived.StillTailTactics
namespace Go.Proofs.YtabpkpeonbdinaaDoor.Lex
open Go.RowKit Go.Proofs.YtabpkpeonbdinaaDoor.Own

def quoT (l : List UInt8) : List UInt8 := if allq l = true then 34 :: esc l ++ [34] else []
theorem quoT_yes {l : List UInt8} (h : allq l = true) : quoT l = 34 :: esc l ++ [34] := if_pos h
theorem quoT_no {l : List UInt8} (h : allq l = false) : quoT l = [] := if_neg (by simp [h])
theorem take_at (s : ByteArray) (pos : Nat) (h : pos < s.size) : s.data.toList.take (pos + 1) = s.data.toList.take pos ++ [s[pos]'h] :=
  List.take_succ_eq_append_getElem (l := s.data.toList) (i := pos) h
theorem allq_app (l m : List UInt8) : allq (l ++ m) = (allq l && allq m) := by simp [allq]
theorem allq_bad {s : ByteArray} {pos : Nat} (h : pos < s.size) (hq : qb (s[pos]'h).toNat = false) : allq s.data.toList = false := by
  rw [allq, List.all_eq_false]
  exact ⟨s[pos], Array.mem_toList_iff.2 (Array.getElem_mem (xs := s.data) h), by simp [hq]⟩
theorem Byt.byte' {w : World} {B : Nat} {v : Value} {o : List UInt8} {c : UInt8} {R : Int} (hR : R = c.toNat) (h : w.ownsRow B 5 1 v (o.length + 1) (bv o ++ [Value.int .u8 R])) : Byt w B v (o ++ [c]) := by
  subst hR
  exact Byt.byte rfl h
theorem Byt.alloc {w : World} {B : Nat} {v : Value} {o : List UInt8} (h : Byt w B v o) (x : Obj) : Byt (w.alloc x) B v o := World.ownsRow.alloc h x

structure QuoAt (s : ByteArray) (w wr : World) (pos : Nat) (v : Value) : Prop where
  at_ : AtB s w.heap.size (w.heap.size + 1) w wr pos
  own : Byt wr w.heap.size v (34 :: esc (s.data.toList.take pos))
  all : allq (s.data.toList.take pos) = true

set_option maxRecDepth 100000 in
set_option maxHeartbeats 4000000 in
theorem quote_calls (s : ByteArray) (hs : s.size ≤ 1099511627776) (w : World) :
    Calls Tryd.prog 72 #[.string s] w fun e w' => e = .returned (.tuple #[.string ⟨(quoT s.data.toList).toArray⟩, .bool (allq s.data.toList)]) ∧ Below w.heap.size w w' := by
  obtain ⟨i0, hi, hz0, hz1, hz2⟩ := info_parts info_u8
  go_enter Tryd.func72, Tryd.ntmps72
  go_wp2_with fail
  go_loopw [4] (fun v wr => ∃ (pos : Nat), QuoAt s w wr pos v) (fun _ wr => s.size - wr.iterPos (w.heap.size + 1))
  case atStart =>
    refine ⟨0, ⟨Nat.zero_le _, ?_, ((Below.refl _ _).alloc (Nat.le_refl _) _).alloc (by simp) _, by omega⟩, ?_, rfl⟩
    · have := World.iter_heap (w.alloc (.cells #[.int .u8 34] 5 (0, 0))) s 0
      simpa using this
    · show Byt _ w.heap.size _ (34 :: esc [])
      rw [esc_nil]
      refine World.ownsRow.alloc ?_ (.stringIter s 0)
      exact ⟨rfl, .inr ⟨_, 1, #[.int .u8 34], rfl, Nat.le_refl _, at_new w _, Nat.le_refl _, by unfold maxLen; omega, rfl, rfl⟩⟩
  case round =>
    obtain ⟨pos, hA⟩ := hrel
    rename World => wr
    have hle := hA.at_.le
    have hm := hA.at_.pos
    by_cases hp : pos < s.size
    · obtain ⟨R, K, hg⟩ := sign_of s pos hp
      have hnx := fun ty => hg.next hA.at_.blk ty
      have hat := hA.at_.next hg
      have HA2 := Lib.hid hat
      have HO := Lib.hid (hA.own.iterAt hA.at_.blk (pos + K))
      have HAL := Lib.hid hA.all
      have HL := Lib.hid hg.low
      have HH := Lib.hid hg.high
      have HT := Lib.hid (take_at s pos hp)
      have HB := Lib.hid (fun h => allq_bad (s := s) hp h)
      have hel : (esc (s.data.toList.take pos)).length ≤ 2 * pos := Nat.le_trans (esc_len _) (by rw [List.length_take]; omega)
      generalize wr.iterAt (w.heap.size + 1) s (pos + K) = W at *
      clear hA hg hat
      obtain ⟨c, hc⟩ : ∃ c, s[pos] = c := ⟨_, rfl⟩
      rw [hc] at HL HH HT HB
      clear hc
      by_cases hq : qb R = true
      · have hq2 := (qb_iff _).1 hq
        have hlow : c.toNat < 128 := by
          by_cases h : c.toNat < 128
          · exact h
          · have := (HH.out (by omega)).1; omega
        obtain ⟨hR, hK⟩ := HL.out hlow
        subst hK
        have HC := Lib.hid hR
        have hlt : R < 128 := by omega
        have hqc : qb c.toNat = true := by rw [← hR]; exact hq
        have hwrap : IntKind.u8.wrap (R : Int) = R := by
          simp [IntKind.wrap, IntKind.bits, IntKind.signed]; omega
        have HAL2 := Lib.hid (show allq (s.data.toList.take (pos + 1)) = true by rw [HT.out, allq_app, HAL.out, allq_cons, hqc]; rfl)
        have hlt5 := HA2.out.lt
        have hl0 : (34 :: esc (s.data.toList.take pos)).length ≤ 2 * pos + 1 := by simp; omega
        clear HL HH HB hR hlow hq2 hqc
        obtain ⟨o, ho0⟩ : ∃ o, 34 :: esc (s.data.toList.take pos) = o := ⟨_, rfl⟩
        have ho := HO.out
        rw [ho0] at ho hl0
        cases heb : eb R
        · have HE := Lib.hid (show 34 :: esc (s.data.toList.take (pos + 1)) = o ++ [c] by rw [HT.out, esc_app, esc_no (by rw [← HC.out]; exact heb), ← ho0]; rfl)
          have HO0 := Lib.hid ho0
          clear ho0 HO hel
          go_wp2_with (first
            | (go_at_call 56; refine (quotable_calls R _).mono ?_; rintro e w' ⟨rfl, rfl⟩; rw [hq])
            | (go_at_call 57; refine (escaped_calls R _).mono ?_; rintro e w' ⟨rfl, rfl⟩; rw [heb])
            | (at_builtin; refine Own.append_any rfl (.tmp 21) (.tmp 24) 58 rfl w.heap.size 5 i0 _ 1 1 Tryd.underlying58 hi hz0 hz1 hz2 rfl (by decide) _ _ _ rfl (World.ownsRow.alloc ho _) _ 1 1 [.int .u8 (R : Int)] rfl (fun h => nomatch h) rfl (one_new _ _ _ _ (by simp)) (by simp [Value.oneCell']) (by unfold maxLen; omega) (by omega) (by simp; omega) ?_; intro v' w1 hown1 hgrow1; have HN := Lib.hid (show QuoAt s w w1 (pos + 1) v' from ⟨HA2.out.grown ho (Nat.le_refl _) hgrow1, by rw [HE.out]; exact Byt.byte HC.out hown1, HAL2.out⟩); clear hown1 hgrow1))
          go_roundw
          case rel => exact ⟨pos + 1, HN.out⟩
          case measure => rw [HN.out.at_.pos, hm]; omega
        · have HE := Lib.hid (show 34 :: esc (s.data.toList.take (pos + 1)) = (o ++ [92]) ++ [c] by rw [HT.out, esc_app, esc_yes (by rw [← HC.out]; exact heb), ← ho0]; simp)
          have HO0 := Lib.hid ho0
          clear ho0 HO hel
          go_wp2_with (first
            | (go_at_call 56; refine (quotable_calls R _).mono ?_; rintro e w' ⟨rfl, rfl⟩; rw [hq])
            | (go_at_call 57; refine (escaped_calls R _).mono ?_; rintro e w' ⟨rfl, rfl⟩; rw [heb])
            | (at_builtin; refine Own.append_any rfl (.tmp 18) (.tmp 19) 58 rfl w.heap.size 5 i0 _ 1 1 Tryd.underlying58 hi hz0 hz1 hz2 rfl (by decide) _ _ _ rfl (World.ownsRow.alloc ho _) _ 1 1 [.int .u8 92] rfl (fun h => nomatch h) rfl (one_new _ _ _ _ (by simp)) (by simp [Value.oneCell']) (by unfold maxLen; omega) (by omega) (by simp; omega) ?_; intro v5 w5 hown5 hgrow5; have HA5 := Lib.hid (HA2.out.grown ho (Nat.le_refl _) hgrow5); have ho5 := Byt.byte' (c := 92) rfl hown5; have hlt6 := HA5.out.lt; have hl5 : (o ++ [92]).length = o.length + 1 := (by simp); clear hown5 hgrow5)
            | (at_builtin; refine Own.append_any rfl (.tmp 21) (.tmp 24) 58 rfl w.heap.size 5 i0 _ 1 1 Tryd.underlying58 hi hz0 hz1 hz2 rfl (by decide) _ _ _ rfl (World.ownsRow.alloc ho5 _) _ 1 1 [.int .u8 (R : Int)] rfl (fun h => nomatch h) rfl (one_new _ _ _ _ (by simp)) (by simp [Value.oneCell']) (by unfold maxLen; omega) (by omega) (by simp; omega) ?_; intro v' w1 hown1 hgrow1; have HN := Lib.hid (show QuoAt s w w1 (pos + 1) v' from ⟨HA5.out.grown ho5 (Nat.le_refl _) hgrow1, by rw [HE.out]; exact Byt.byte HC.out hown1, HAL2.out⟩); clear hown1 hgrow1))
          go_roundw
          case rel => exact ⟨pos + 1, HN.out⟩
          case measure => rw [HN.out.at_.pos, hm]; omega
      · have hq' : qb R = false := by simpa using hq
        have hqc : qb c.toNat = false := by
          by_cases h : c.toNat < 128
          · rw [← (HL.out h).1]; exact hq'
          · simp [qb]; omega
        have HN := Lib.hid (HB.out hqc)
        clear HL HH HB hq hqc
        go_wp2_with (go_at_call 56; refine (quotable_calls R _).mono ?_; rintro e w' ⟨rfl, rfl⟩; rw [hq'])
        go_ret2
        exact ⟨by rw [quoT_no HN.out, HN.out]; rfl, HA2.out.below⟩
    · have hnx := fun ty => Lib.run_next_end_at (P := Tryd.prog) wr (w.heap.size + 1) s pos ty hA.at_.blk hp
      obtain rfl : pos = s.size := by omega
      have HAL := Lib.hid (show allq s.data.toList = true by have := hA.all; rwa [List.take_of_length_le (by rw [list_size]; omega)] at this)
      have ho := hA.own
      have HA2 := Lib.hid hA.at_
      rw [List.take_of_length_le (by rw [list_size]; omega)] at ho
      have hlt5 := HA2.out.lt
      have hl0 : (34 :: esc s.data.toList).length ≤ 2 * s.size + 1 := by have := esc_len s.data.toList; rw [list_size] at this; simp; omega
      have HQ := Lib.hid (quoT_yes HAL.out)
      obtain ⟨o, ho0⟩ : ∃ o, 34 :: esc s.data.toList = o := ⟨_, rfl⟩
      rw [ho0] at ho hl0 HQ
      clear hA ho0
      go_wp2_with (at_builtin; refine Own.append_any rfl (.tmp 26) (.tmp 27) 58 rfl w.heap.size 5 i0 _ 1 1 Tryd.underlying58 hi hz0 hz1 hz2 rfl (by decide) _ _ _ rfl (World.ownsRow.alloc ho _) _ 1 1 [.int .u8 34] rfl (fun h => nomatch h) rfl (one_new _ _ _ _ (by simp)) (by simp [Value.oneCell']) (by unfold maxLen; omega) (by omega) (by simp; omega) ?_; intro v' w1 hown1 hgrow1; have HN := Lib.hid (HA2.out.grown ho (Nat.le_refl _) hgrow1); have htx := (Byt.byte' (c := 34) rfl hown1).text; clear hown1 hgrow1)
      go_ret2
      exact ⟨by rw [HQ.out, HAL.out]; rfl, HN.out.below⟩

theorem empty_of {t : ByteArray} (h : t.size = 0) : t = ⟨#[]⟩ := by
  cases t with | mk d => cases d with | mk l => cases l with | nil => rfl | cons a r => simp [ByteArray.size] at h
theorem full_of {t : ByteArray} (h : t.size ≠ 0) : t.data.toList ≠ [] := by
  intro e; have := list_size t; rw [e] at this; simp at this; omega
theorem wordy_same (s : ByteArray) (w : World) (h : isW s.data.toList = true) : Calls Tryd.prog 50 #[.string s] w fun e w' => e = .returned (.bool true) ∧ Below w.heap.size w w' := by
  have := wordy_calls s w; rwa [h] at this
theorem held1 {w1 w5 : World} {b : Nat} {v : Value} (hb : Below w1.heap.size w1 w5) (hlt : b < w1.heap.size) (x : w1.cell? ⟨b, 1, none⟩ = some v) : Below w1.heap.size w1 w5 ∧ w5.cell? ⟨b, 1, none⟩ = some v :=
  ⟨hb, (hb.cell (p := ⟨b, 1, none⟩) hlt).trans x⟩
theorem below_drew {B : Nat} {a w : World} (h : Below B a w) {q : Nat} : Below B a (w.drewN q) := ⟨h.os, h.tape, h.output, h.size, h.block⟩

set_option maxRecDepth 100000 in
set_option maxHeartbeats 4000000 in
theorem put_calls (k : Int) (t : ByteArray) (ln : Int) (hs : t.size ≤ 1099511627776) (w : World) :
    Calls Tryd.prog 63 #[.agg #[.int .i64 k, .string t, .int .i64 ln]] w fun e w' => e = .returned (.tuple #[.string ⟨(ptT k t.data.toList).toArray⟩, .int .i64 (ptC k t.data.toList)]) ∧ Below w.heap.size w w' := by
  by_cases hout : k < 1 ∨ 5 < k
  · obtain ⟨e1, e2⟩ := ptC_out hout t.data.toList
    rw [e1, e2]
    have b1 : (k == 1) = false := by simp; omega
    have b2 : (k == 2) = false := by simp; omega
    have b3 : (k == 3) = false := by simp; omega
    have b4 : (k == 4) = false := by simp; omega
    have b5 : (k == 5) = false := by simp; omega
    clear hout e1 e2
    go_enter Tryd.func63, Tryd.ntmps63
    go_wp2_with fail
    go_ret2
    exact ⟨rfl, (Below.refl _ _).alloc (Nat.le_refl _) _⟩
  · have hk : k = 1 ∨ k = 2 ∨ k = 3 ∨ k = 4 ∨ k = 5 := by omega
    rcases hk with rfl | rfl | hk
    · obtain ⟨b, hb0⟩ : ∃ b, isW t.data.toList = b := ⟨_, rfl⟩
      have HW := Lib.hid (wordy_calls t)
      rw [hb0] at HW
      have HP := Lib.hid (show (⟨(ptT 1 t.data.toList).toArray⟩ : ByteArray) = toldT t b ∧ ptC 1 t.data.toList = toldC b by
        cases b
        · exact ⟨by rw [((ptC_word _).2 hb0).2]; rfl, ((ptC_word _).2 hb0).1⟩
        · exact ⟨by rw [((ptC_word _).1 hb0).2]; rfl, ((ptC_word _).1 hb0).1⟩)
      clear hb0
      go_enter Tryd.func63, Tryd.ntmps63
      go_wp2_with fail
      have hB1 : Below w.heap.size w (w.alloc (.cells #[.int .i64 1, .string t, .int .i64 ln] 67 (0, 0))) := (Below.refl _ _).alloc (Nat.le_refl _) _
      have x1 : (w.alloc (.cells #[.int .i64 1, .string t, .int .i64 ln] 67 (0, 0))).cell? ⟨w.heap.size, 1, none⟩ = some (.string t) := by rw [at_cell (at_new w _)]; rfl
      have hlt : w.heap.size < (w.alloc (.cells #[.int .i64 1, .string t, .int .i64 ln] 67 (0, 0))).heap.size := by simp
      generalize w.alloc (.cells #[.int .i64 1, .string t, .int .i64 ln] 67 (0, 0)) = w1 at *
      have HB1 := Lib.hid hB1
      clear hB1
      go_region_held3 (fun w' => Below w1.heap.size w1 w' ∧ w'.cell? ⟨w.heap.size, 1, none⟩ = some (.string t))
        (first
          | exact held1 (below_drew (Below.refl _ _)) hlt x1
          | exact held1 hb5 hlt x1)
        (first
          | (go_at_call 50; go_split_ands; refine (HW.out _).mono ?_; rintro e w5 ⟨rfl, hb5⟩; replace hb5 := Below.trans (by assumption) (hb5.mono (Below.size (by assumption))))
          | (go_at_call 71; refine (told_calls _ _ _).mono ?_; rintro e w6 ⟨rfl, rfl⟩))
      go_wp2_with fail
      go_ret2
      exact ⟨by rw [HP.out.1, HP.out.2]; rfl, HB1.out.trans (hb5.mono HB1.out.size)⟩
    · obtain ⟨b, hb0⟩ : ∃ b, allq t.data.toList = b := ⟨_, rfl⟩
      have HW := Lib.hid (quote_calls t hs)
      obtain ⟨q, hq0⟩ : ∃ q, quoT t.data.toList = q := ⟨_, rfl⟩
      rw [hb0, hq0] at HW
      have HP := Lib.hid (show (⟨(ptT 2 t.data.toList).toArray⟩ : ByteArray) = toldT ⟨q.toArray⟩ b ∧ ptC 2 t.data.toList = toldC b by
        subst hq0
        cases b
        · exact ⟨by rw [((ptC_quote _).2 hb0).2]; rfl, ((ptC_quote _).2 hb0).1⟩
        · exact ⟨by rw [((ptC_quote _).1 hb0).2, quoT_yes hb0]; rfl, ((ptC_quote _).1 hb0).1⟩)
      clear hb0 hq0
      have hB1 := Lib.hid ((Below.refl w.heap.size w).alloc (Nat.le_refl _) (.cells #[.int .i64 2, .string t, .int .i64 ln] 67 (0, 0)))
      go_enter Tryd.func63, Tryd.ntmps63
      go_wp2_with (first
        | (go_at_call 72; refine (HW.out _).mono ?_; rintro e w5 ⟨rfl, hb5⟩; replace hb5 := Lib.hid (hB1.out.trans (hb5.mono hB1.out.size)))
        | (go_at_call 71; refine (told_calls _ _ _).mono ?_; rintro e w6 ⟨rfl, rfl⟩))
      go_ret2
      exact ⟨by rw [HP.out.1, HP.out.2]; rfl, hb5.out⟩
    · have w1 : IntKind.i64.wrap 1 = 1 := by decide
      have w2 : IntKind.i64.wrap 2 = 2 := by decide
      have w3 : IntKind.i64.wrap 3 = 3 := by decide
      have c0 : ∀ W, (Instr.sliceAt 9 (.string ⟨#[123, 125, 59]⟩) (some (.int .i64 0)) (some (.int .i64 1)) none).run Tryd.prog W = .ok (.string ⟨#[123]⟩) W := fun W => cut_mid 9 Tryd.underlying9 ⟨#[123, 125, 59]⟩ 0 1 (by decide) (by decide) (by decide) W
      have c1 : ∀ W, (Instr.sliceAt 9 (.string ⟨#[123, 125, 59]⟩) (some (.int .i64 1)) (some (.int .i64 2)) none).run Tryd.prog W = .ok (.string ⟨#[125]⟩) W := fun W => cut_mid 9 Tryd.underlying9 ⟨#[123, 125, 59]⟩ 1 2 (by decide) (by decide) (by decide) W
      have c2 : ∀ W, (Instr.sliceAt 9 (.string ⟨#[123, 125, 59]⟩) (some (.int .i64 2)) (some (.int .i64 3)) none).run Tryd.prog W = .ok (.string ⟨#[59]⟩) W := fun W => cut_mid 9 Tryd.underlying9 ⟨#[123, 125, 59]⟩ 2 3 (by decide) (by decide) (by decide) W
      by_cases h0 : t.size = 0
      · obtain rfl := empty_of h0
        rcases hk with rfl | rfl | rfl
        all_goals
          go_enter Tryd.func63, Tryd.ntmps63
          go_wp2_with fail
          go_quiet ((go_at_call 71; exact Calls.quiet_of_same ((told_calls _ _ _).mono fun _ _ h => h)))
          go_wp2_with fail
          go_ret2
          exact ⟨rfl, below_drew ((Below.refl _ _).alloc (Nat.le_refl _) _)⟩
      · have hne : t.toList.isEmpty = false := by
          rw [ByteArray.toList_eq]
          cases h : t.data.toList with
          | nil => exact absurd h (full_of h0)
          | cons a r => rfl
        have hne2 : (t.toList == []) = false := by
          cases h : t.toList with
          | nil => rw [h] at hne; cases hne
          | cons a r => rfl
        have HP := Lib.hid (ptC_mark (k := k) (by omega) (by omega) (full_of h0))
        clear h0
        rcases hk with rfl | rfl | rfl
        all_goals
          rw [HP.out.1, HP.out.2]
          go_enter Tryd.func63, Tryd.ntmps63
          go_wp2_with fail
          go_quiet ((go_at_call 71; exact Calls.quiet_of_same ((told_calls _ _ _).mono fun _ _ h => h)))
          go_wp2_with fail
          go_ret2
          exact ⟨rfl, below_drew ((Below.refl _ _).alloc (Nat.le_refl _) _)⟩
end Go.Proofs.YtabpkpeonbdinaaDoor.Lex

/-
  Layer 12 (lex): the document's Read, walked.
-/
import Derived.Test.YtijnijlekidhcaaDoorLexRefC
import Derived.Test.YtijnijlekidhcaaDoorLexRead
namespace Go.Proofs.YtijnijlekidhcaaDoor.Lex
open Go.RowKit Go.Proofs.YtijnijlekidhcaaDoor.Own

theorem info_rpiece : (Tryd.prog.info? 47).map (fun i => (i.zero, i.size, i.bytes)) = some (some (.agg #[.int .i64 0, .string ⟨#[]⟩, .int .i64 0]), 3, 32) := by kernel_rfl
def RReadPost (s : ByteArray) (w : World) (e : Ending) (w' : World) : Prop :=
  ∃ v, e = .returned (.tuple #[v, .int .i64 (total s.data.toList).code, .int .i64 (total s.data.toList).line]) ∧ w'.ownsRow w.heap.size 47 3 v (total s.data.toList).pcs.length (pv (total s.data.toList).pcs) ∧ Below w.heap.size w w'
/-- pieces found, and where the next one begins -/
structure RAt (s : ByteArray) (w wr : World) (acc : List Pc) (k : Nat) (line : Int) (v : Value) : Prop where
  own : wr.ownsRow w.heap.size 47 3 v acc.length (pv acc)
  below : Below w.heap.size w wr
  size : acc.length ≤ k
  one : 1 ≤ line
  top : line ≤ 1 + k
  le : k ≤ s.size
  left : ∃ f, s.size - k < f ∧ read f acc (s.data.toList.drop k) line = total s.data.toList
theorem RAt.step {s : ByteArray} {w wr w5 w1 : World} {acc : List Pc} {k : Nat} {line : Int} {v v' : Value} (h : RAt s w wr acc k line v) (hal : acc.length ≠ 8192)
    {x : Int} {t : List UInt8} {m : Nat} (hf : first (s.data.toList.drop k) = Option.some (x, t, m)) (hb : Below wr.heap.size wr w5)
    (ho : w1.ownsRow w.heap.size 47 3 v' (acc.length + 1) (pv acc ++ [.int .i64 x, .string ⟨t.toArray⟩, .int .i64 line])) (hg : w5.grownBy w1 v.ownBlock) {A : Nat} {L : Int} (hA : k + m + skip false (s.data.toList.drop (k + m)) = A) (hL : line + skn false (s.data.toList.drop (k + m)) = L) :
    RAt s w w1 (acc ++ [⟨x, t, line⟩]) A L v' ∧ s.size - A < s.size - k := by
  have hs := h.below.size
  have hs5 := hb.size
  have hfl := first_le hf
  have hsz := h.size
  have htop := h.top
  have hone := h.one
  have hle := h.le
  have hfl2 := hfl.2
  rw [List.length_drop, list_size] at hfl2
  have hsl := skip_le (s.data.toList.drop (k + m)) false
  rw [List.length_drop, list_size] at hsl
  have hsn := skn_le (s.data.toList.drop (k + m)) false
  refine ⟨⟨?_, ?_, ?_, ?_, ?_, ?_, ?_⟩, by omega⟩
  · rw [List.length_append, pv_app]; exact ho
  · exact (h.below.trans (hb.mono hs)).grown hg (by omega) (fun k hk => (World.ownsRow.lt h.own k hk).1)
  · rw [List.length_append, List.length_singleton]; omega
  · omega
  · omega
  · omega
  · obtain ⟨f, hf1, hf2⟩ := h.left
    obtain ⟨f', rfl⟩ : ∃ f', f = f' + 1 := ⟨f - 1, by omega⟩
    refine ⟨f', by omega, ?_⟩
    have e1 : (s.data.toList.drop k).drop m = s.data.toList.drop (k + m) := List.drop_drop
    have e2 : (s.data.toList.drop (k + m)).drop (skip false (s.data.toList.drop (k + m))) = s.data.toList.drop A := by rw [List.drop_drop, hA]
    rw [← hf2, read_some f' (by intro e; rw [e] at hf; cases hf) hal hf, e1, e2, hL]

set_option maxRecDepth 100000 in
set_option maxHeartbeats 4000000 in
theorem rread_calls (s : ByteArray) (hs1 : s.size ≤ 1099511627776) (w : World) :
    Calls Tryd.prog 8 #[.string s] w (RReadPost s w) := by
  obtain ⟨i0, hi, hz0, hz1, hz2⟩ := info_parts info_rpiece
  by_cases hbig : 65536 < s.size
  · have HT := Lib.hid (total_big (l := s.data.toList) hbig)
    have q1 : (65536 : Int) < (s.size : Int) := by omega
    clear hbig
    go_enter Tryd.func8, Tryd.ntmps8
    go_wp2_with fail
    go_ret3
    exact ⟨_, by rw [HT.out]; rfl, by rw [HT.out]; exact World.ownsRow_nil _ _ _ _, Below.refl _ _⟩
  · have HT := Lib.hid (total_fit (l := s.data.toList) hbig)
    have hs : s.size ≤ 65536 := by omega
    have q1 : ¬ (65536 : Int) < (s.size : Int) := by omega
    clear hbig
    obtain ⟨A0, hA0⟩ : ∃ A0, skip false s.data.toList = A0 := ⟨_, rfl⟩
    obtain ⟨L0, hL0⟩ : ∃ L0, 1 + (skn false s.data.toList : Int) = L0 := ⟨_, rfl⟩
    have HS := Lib.hid (rskip_calls s hs1 0 (Nat.zero_le _) 1 (by decide) (by decide) A0 L0 (by rw [List.drop_zero, hA0]; omega) (by rw [List.drop_zero, hL0]))
    have hAl : A0 ≤ s.size := by rw [← hA0]; exact Nat.le_trans (skip_le _ _) (Nat.le_of_eq (list_size s))
    have hLl : 1 ≤ L0 ∧ L0 ≤ 1 + A0 := by have := skn_le s.data.toList false; omega
    have HA0 := Lib.hid hA0
    have HL0 := Lib.hid hL0
    clear hA0 hL0
    go_enter Tryd.func8, Tryd.ntmps8
    go_wp2_with (go_at_call 21; refine (HS.out _).mono ?_; rintro e w5 ⟨rfl, hw5⟩; obtain rfl := hw5.symm)
    go_loopw [5, 6, 7] (fun v iv lv wr => ∃ (acc : List Pc) (k : Nat) (line : Int), iv = .int .i64 k ∧ lv = .int .i64 line ∧ RAt s w wr acc k line v) (fun _ iv _ _ => s.size - (intOf iv).toNat)
    case atStart => exact ⟨[], A0, L0, rfl, rfl, World.ownsRow_nil _ _ _ _, Below.refl _ _, by simp, hLl.1, hLl.2, hAl, ⟨s.size + 1, by omega, by rw [HT.out, HA0.out, HL0.out]; rfl⟩⟩
    case round =>
      obtain ⟨acc, k, line, rfl, rfl, C⟩ := hrel
      rename World => wr
      have hown := C.own
      have hsz := C.size
      have hone := C.one
      have htop := C.top
      have hle := C.le
      have hbs := C.below.size
      have HC := Lib.hid C
      clear C HS HA0 HL0 HT hAl hLl
      by_cases hlt : k < s.size
      · have q2 : (k : Int) < (s.size : Int) := by omega
        have HNE := Lib.hid (show s.data.toList.drop k ≠ [] by rw [drop_at s k hlt]; simp)
        have HO := Lib.hid hown
        obtain ⟨vp, vc, rfl⟩ := own_form hown
        clear hown
        by_cases h8 : acc.length = 8192
        · have b8 : ((acc.length : Int) == 8192) = true := by simp [h8]
          have HTT := Lib.hid (show total s.data.toList = .err 15 line by
            obtain ⟨f, hf1, hf2⟩ := HC.out.left
            obtain ⟨f', rfl⟩ : ∃ f', f = f' + 1 := ⟨f - 1, by omega⟩
            rw [← hf2]; exact read_many _ HNE.out h8 _)
          clear h8
          go_wp2_with fail
          go_ret3
          exact ⟨_, by rw [HTT.out]; rfl, by rw [HTT.out]; exact World.ownsRow_nil _ _ _ _, HC.out.below⟩
        · have b8 : ((acc.length : Int) == 8192) = false := by simp; omega
          have HOne := Lib.hid (rone_calls s hs1 k hlt line)
          have H8 := Lib.hid h8
          clear h8
          go_wp2_with fail
          refine (HOne.out _).mono ?_
          rintro e w7 ⟨x, t, g, n, b, rfl, hb7, hx⟩
          have HB7 := Lib.hid hb7
          have h7 := HB7.out.size
          have ho7 := Own.own_below HO.out hb7
          clear hb7
          rcases hx with ⟨rfl, hf⟩ | ⟨rfl, hg, m, hf, hm0, rfl⟩
          · have HTT := Lib.hid (show total s.data.toList = .err 3 line by
              obtain ⟨f, hf1, hf2⟩ := HC.out.left
              obtain ⟨f', rfl⟩ : ∃ f', f = f' + 1 := ⟨f - 1, by omega⟩
              rw [← hf2]; exact read_bad _ HNE.out H8.out hf _)
            clear hf
            go_wp2_with fail
            go_ret3
            exact ⟨_, by rw [HTT.out]; rfl, by rw [HTT.out]; exact World.ownsRow_nil _ _ _ _, (HC.out.below.trans (HB7.out.mono HC.out.below.size)).alloc (by omega) _⟩
          · obtain rfl := hg.symm
            have hfl := (first_le hf).2
            rw [List.length_drop, list_size] at hfl
            obtain ⟨A, hA⟩ : ∃ A, k + m + skip false (s.data.toList.drop (k + m)) = A := ⟨_, rfl⟩
            obtain ⟨L, hL⟩ : ∃ L, line + (skn false (s.data.toList.drop (k + m)) : Int) = L := ⟨_, rfl⟩
            have HS := Lib.hid (rskip_calls s hs1 (k + m) (by omega) line (by omega) (by omega) A L hA hL)
            have HA := Lib.hid hA
            have HL := Lib.hid hL
            have HF := Lib.hid hf
            obtain ⟨km, hkm⟩ : ∃ km, k + m = km := ⟨_, rfl⟩
            rw [hkm] at HS
            clear hf hA hL
            go_wp2_with (first
              | (at_builtin; refine Own.append_any rfl (.tmp 38) (.tmp 40) 28 rfl w.heap.size 47 i0 _ 3 32 Tryd.underlying28 hi hz0 hz1 hz2 rfl (by decide) _ _ _ rfl (World.ownsRow.alloc (World.ownsRow.alloc ho7 _) _) _ 1 1 [.int .i64 x, .string ⟨t.toArray⟩, .int .i64 line] rfl (fun h => nomatch h) rfl (Own.three_new _ _ _ _ _ _ (by simp)) (by simp [Value.oneCell']) (by unfold maxLen; omega) (by omega) (by simp; omega) ?_; intro v' w1 hown1 hgrow1; have C1 := Lib.hid (HC.out.step H8.out HF.out ((HB7.out.alloc h7 _).alloc (by simp; omega) _) hown1 hgrow1 HA.out HL.out); clear hown1 hgrow1 ho7)
              | (go_at_call 21; refine (HS.out _).mono ?_; rintro e w5 ⟨rfl, hw5⟩; obtain rfl := hw5.symm))
            go_roundw
            case rel => exact ⟨_, A, L, rfl, rfl, C1.out.1⟩
            case measure => have := C1.out.2; simp [intOf]; omega
      · obtain rfl : k = s.size := by omega
        have HTT := Lib.hid (show total s.data.toList = .ok acc by
          obtain ⟨f, hf1, hf2⟩ := HC.out.left
          obtain ⟨f', rfl⟩ : ∃ f', f = f' + 1 := ⟨f - 1, by omega⟩
          rw [← hf2, drop_all s (Nat.le_refl _)]; exact read_nil _ _ _)
        have HO := Lib.hid hown
        clear hlt hown
        go_wp2_with fail
        go_ret3
        exact ⟨_, by rw [HTT.out]; rfl, by rw [HTT.out]; exact HO.out, HC.out.below⟩
end Go.Proofs.YtijnijlekidhcaaDoor.Lex

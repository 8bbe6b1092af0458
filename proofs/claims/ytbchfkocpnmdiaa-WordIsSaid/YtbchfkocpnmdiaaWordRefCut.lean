/-
  Layer 10 (word): the document's own Cut, walked.
-/
import Derived.Test.YtbchfkocpnmdiaaWordRefOps
import Derived.Test.YtbchfkocpnmdiaaWordRefMatch
namespace Go.Proofs.Ytbchfkocpnmdiaa.Word
open Go.RowKit Go.Proofs.Ytbchfkocpnmdiaa.Own Go.Proofs.Ytbchfkocpnmdiaa.Rw

theorem info_string : (Try.prog.info? 9).map (fun i => (i.zero, i.size, i.bytes)) = some (some (.string ⟨#[]⟩), 1, 16) := by kernel_rfl

structure CutAt (w wr : World) (v : Value) (s : List UInt8) (k : Nat) (outs : List Bs) (cur : List UInt8) : Prop where
  own : wr.ownsRow w.heap.size 9 1 v outs.length (strs outs)
  eq : cut s = outs ++ cutGo cur (s.drop k)
  below : Below w.heap.size w wr
  len : outs.length ≤ k
  clen : cur.length ≤ k
theorem CutAt.sign {w wr : World} {v : Value} {s : List UInt8} {k : Nat} {outs : List Bs} {cur : List UInt8} (h : CutAt w wr v s k outs cur) (hk : k < s.length) (hb : blank s[k] = false) : CutAt w wr v s (k + 1) outs (cur ++ [s[k]]) :=
  ⟨h.own, by rw [h.eq, List.drop_eq_getElem_cons hk, cutGo_sign hb], h.below, by have := h.len; omega, by have := h.clen; simp; omega⟩
theorem CutAt.blank {w wr : World} {v : Value} {s : List UInt8} {k : Nat} {outs : List Bs} (h : CutAt w wr v s k outs []) (hk : k < s.length) (hb : Word.blank s[k] = true) : CutAt w wr v s (k + 1) outs [] :=
  ⟨h.own, by rw [h.eq, List.drop_eq_getElem_cons hk, cutGo_blank hb]; rfl, h.below, by have := h.len; omega, Nat.zero_le _⟩
theorem grown_own {w wr wy w1 : World} {v : Value} {n : Nat} {e : TypeId} {xs : List Value} (ho : wr.ownsRow w.heap.size e 1 v n xs) (hB : Below w.heap.size w wr) (hy : Below wr.heap.size wr wy) (hg : wy.grownBy w1 v.ownBlock) : Below w.heap.size w w1 := by
  have hs := hB.size
  have h2 : Below w.heap.size w wy := hB.trans (hy.mono hs)
  exact h2.grown hg h2.size (fun k hk => by have := (World.ownsRow.lt ho k hk).1; omega)
theorem CutAt.word {w wr wy w1 : World} {v v1 : Value} {s : List UInt8} {k : Nat} {outs : List Bs} {cur : List UInt8} (h : CutAt w wr v s k outs cur) (hc : cur ≠ []) (hk : k < s.length) (hb : Word.blank s[k] = true)
    (hy : Below wr.heap.size wr wy) (hown : w1.ownsRow w.heap.size 9 1 v1 (outs.length + 1) (strs outs ++ [.string ⟨cur.toArray⟩])) (hg : wy.grownBy w1 v.ownBlock) : CutAt w w1 v1 s (k + 1) (outs ++ [cur]) [] := by
  refine ⟨?_, by rw [h.eq, List.drop_eq_getElem_cons hk, cutGo_blank hb, wordOf_ne hc]; simp, grown_own h.own h.below hy hg, by have := h.len; simp; omega, Nat.zero_le _⟩
  rw [List.length_append, strs_app]; exact hown
theorem CutAt.end_ {w wr : World} {v : Value} {s : List UInt8} {outs : List Bs} {k : Nat} (h : CutAt w wr v s k outs []) (hk : k = s.length) : TPost w (cut s) (.returned v) wr := by
  have he : cut s = outs := by rw [h.eq, hk, List.drop_length]; simp [cutGo, wordOf]
  obtain ⟨p, c, e, ht⟩ := texts_own h.own rfl
  rw [he]
  exact ⟨p, c, by rw [e], ht, h.below⟩
theorem CutAt.last {w wr wy w1 : World} {v v1 : Value} {s : List UInt8} {outs : List Bs} {k : Nat} {cur : List UInt8} (h : CutAt w wr v s k outs cur) (hk : k = s.length) (hc : cur ≠ [])
    (hy : Below wr.heap.size wr wy) (hown : w1.ownsRow w.heap.size 9 1 v1 (outs.length + 1) (strs outs ++ [.string ⟨cur.toArray⟩])) (hg : wy.grownBy w1 v.ownBlock) : TPost w (cut s) (.returned v1) w1 := by
  have he : cut s = outs ++ [cur] := by rw [h.eq, hk, List.drop_length]; simp [cutGo, wordOf_ne hc]
  obtain ⟨p, c, e, ht⟩ := texts_own (ts := outs ++ [cur]) (n := outs.length + 1) (by rw [strs_app]; exact hown) (by simp)
  rw [he]
  exact ⟨p, c, by rw [e]; simp, ht, grown_own h.own h.below hy hg⟩
theorem cut_one (s : ByteArray) (k : Nat) (hk : k < s.size) : s.extract k (k + 1) = ⟨[s[k]].toArray⟩ := by
  apply ByteArray.ext
  rw [ByteArray.data_extract]
  apply Array.toList_inj.1
  rw [Array.toList_extract, List.extract_eq_drop_take', List.drop_take, show k + 1 - k = 1 by omega, drop_cons s.data.toList k hk]
  rfl
theorem slice_one {P : Program} (t : TypeId) (ht : P.underlying t = some .string) (s : ByteArray) (k : Nat) (hk : k < s.size) (W : World) :
    (Instr.sliceAt t (.string s) (some (.int .i64 k)) (some (.int .i64 (k + 1))) none).run P W = .ok (.string ⟨[s[k]].toArray⟩) W := by
  rw [run_sliceAt_string W t _ _ _ _ ht, run_slice_string W t s .i64 .i64 k (k + 1) ht (by omega) (by omega) (by omega), ← cut_one s k hk]; rfl
theorem list_empty {l : List UInt8} (h : l ≠ []) : l.isEmpty = false := List.isEmpty_eq_false_iff.2 h

set_option maxRecDepth 100000 in
set_option maxHeartbeats 2000000 in
theorem rcut_calls (s : ByteArray) (hs : s.size ≤ 1000000) (w : World) : Calls Try.prog 15 #[.string s] w (TPost w (cut s.data.toList)) := by
  obtain ⟨i0, hi, hz0, hz1, hz2⟩ := info_parts info_string
  go_enter Try.func15, Try.ntmps15
  go_wp2_with fail
  go_loopw [3, 4, 5] (fun v u i wr => ∃ (k : Nat) (outs : List Bs) (cur : List UInt8), k ≤ s.size ∧ i = .int .i64 k ∧ u = .string ⟨cur.toArray⟩ ∧ CutAt w wr v s.data.toList k outs cur) (fun _ _ i _ => s.size - (intOf i).toNat)
  case atStart => exact ⟨0, [], [], by omega, rfl, rfl, World.ownsRow_nil _ _ _ _, rfl, Below.refl _ _, Nat.le_refl _, Nat.le_refl _⟩
  case round =>
    obtain ⟨k, outs, cur, hk, rfl, rfl, C⟩ := hrel
    have hlen := C.len
    have hclen := C.clen
    have hown := C.own
    have hsz := C.below.size
    have HC := Lib.hid C
    have HO := Lib.hid hown
    clear C hown
    have s1 := size_mk cur
    by_cases hlt : k < s.size
    · rcases (show (s[k].toNat = 32 ∨ s[k].toNat = 9) ∨ (s[k].toNat ≠ 32 ∧ s[k].toNat ≠ 9) by omega) with hb | ⟨h32, h9⟩
      · have hbl : Word.blank (s.data.toList[k]'hlt) = true := by
          rcases hb with hb | hb
          · have : s.data.toList[k]'hlt = 32 := UInt8.toNat_inj.1 hb
            rw [this]; rfl
          · have : s.data.toList[k]'hlt = 9 := UInt8.toNat_inj.1 hb
            rw [this]; rfl
        have HBL := Lib.hid hbl
        clear hbl
        rcases (show s[k].toNat = 32 ∨ (s[k].toNat ≠ 32 ∧ s[k].toNat = 9) by omega) with h32 | ⟨h32, h9⟩
        · have e1 : ((s[k].toNat : Int) == 32) = true := by simp [h32]
          have e2 : ((s[k].toNat : Int) != 32) = false := by simp [h32]
          replace h32 := Lib.hid h32
          clear hb
          by_cases hcur : cur = []
          · subst hcur
            have C1 := Lib.hid (HC.out.blank (show k < s.data.toList.length from hlt) HBL.out)
            go_wp2_with fail
            go_roundw
            case rel => exact ⟨k + 1, outs, [], by omega, by go_num, rfl, C1.out⟩
            case measure => simp [intOf]; omega
          · have hne := list_empty hcur
            replace hcur := Lib.hid hcur
            go_wp2_with (at_builtin; refine Own.append_any rfl (.tmp 31) (.tmp 33) 26 rfl w.heap.size 9 i0 _ 1 16 Try.underlying26 hi hz0 hz1 hz2 rfl (by decide) _ _ _ rfl (World.ownsRow.alloc HO.out _) _ 1 1 [.string ⟨cur.toArray⟩] rfl (fun h => nomatch h) rfl (one_new _ _ _ _ (by simp)) (by simp [Value.oneCell']) (by unfold maxLen; omega) (by omega) (by simp; omega) ?_; intro v1 w1 hown1 hgrow1)
            have C1 := Lib.hid (HC.out.word hcur.out (show k < s.data.toList.length from hlt) HBL.out ((Below.refl _ _).alloc (Nat.le_refl _) _) hown1 hgrow1)
            clear hown1 hgrow1
            go_wp2_with fail
            go_roundw
            case rel => exact ⟨k + 1, outs ++ [cur], [], by omega, by go_num, rfl, C1.out⟩
            case measure => simp [intOf]; omega
        · have e1 : ((s[k].toNat : Int) == 32) = false := by simp; omega
          have e2 : ((s[k].toNat : Int) != 32) = true := by simp; omega
          have e3 : ((s[k].toNat : Int) == 9) = true := by simp [h9]
          have e4 : ((s[k].toNat : Int) != 9) = false := by simp [h9]
          replace h32 := Lib.hid h32
          replace h9 := Lib.hid h9
          clear hb
          by_cases hcur : cur = []
          · subst hcur
            have C1 := Lib.hid (HC.out.blank (show k < s.data.toList.length from hlt) HBL.out)
            go_wp2_with fail
            go_roundw
            case rel => exact ⟨k + 1, outs, [], by omega, by go_num, rfl, C1.out⟩
            case measure => simp [intOf]; omega
          · have hne := list_empty hcur
            replace hcur := Lib.hid hcur
            go_wp2_with (at_builtin; refine Own.append_any rfl (.tmp 31) (.tmp 33) 26 rfl w.heap.size 9 i0 _ 1 16 Try.underlying26 hi hz0 hz1 hz2 rfl (by decide) _ _ _ rfl (World.ownsRow.alloc HO.out _) _ 1 1 [.string ⟨cur.toArray⟩] rfl (fun h => nomatch h) rfl (one_new _ _ _ _ (by simp)) (by simp [Value.oneCell']) (by unfold maxLen; omega) (by omega) (by simp; omega) ?_; intro v1 w1 hown1 hgrow1)
            have C1 := Lib.hid (HC.out.word hcur.out (show k < s.data.toList.length from hlt) HBL.out ((Below.refl _ _).alloc (Nat.le_refl _) _) hown1 hgrow1)
            clear hown1 hgrow1
            go_wp2_with fail
            go_roundw
            case rel => exact ⟨k + 1, outs ++ [cur], [], by omega, by go_num, rfl, C1.out⟩
            case measure => simp [intOf]; omega
      · have hbl : Word.blank (s.data.toList[k]'hlt) = false := by
          simp only [Word.blank, Bool.or_eq_false_iff, beq_eq_false_iff_ne]
          exact ⟨fun e => h32 (congrArg UInt8.toNat e), fun e => h9 (congrArg UInt8.toNat e)⟩
        have C1 := Lib.hid (HC.out.sign (show k < s.data.toList.length from hlt) hbl)
        clear hbl
        have e1 : ((s[k].toNat : Int) == 32) = false := by simp; omega
        have e2 : ((s[k].toNat : Int) != 32) = true := by simp; omega
        have e3 : ((s[k].toNat : Int) == 9) = false := by simp; omega
        have e4 : ((s[k].toNat : Int) != 9) = true := by simp; omega
        have hcut := slice_one (P := Try.prog) 9 Try.underlying9 s k hlt
        have hcut2 := cut_one s k hlt
        go_wp2_with fail
        go_roundw
        case rel => exact ⟨k + 1, outs, cur ++ [s[k]], by omega, by go_num, by rw [str_add rfl], C1.out⟩
        case measure => simp [intOf]; omega
    · have hke : k = s.data.toList.length := by rw [size_list]; omega
      by_cases hcur : cur = []
      · subst hcur
        have HE := Lib.hid (HC.out.end_ hke)
        clear hke
        go_wp2_with fail
        go_ret
        exact HE.out
      · have hne := list_empty hcur
        replace hke := Lib.hid hke
        replace hcur := Lib.hid hcur
        go_wp2_with (at_builtin; refine Own.append_any rfl (.tmp 37) (.tmp 39) 26 rfl w.heap.size 9 i0 _ 1 16 Try.underlying26 hi hz0 hz1 hz2 rfl (by decide) _ _ _ rfl (World.ownsRow.alloc HO.out _) _ 1 1 [.string ⟨cur.toArray⟩] rfl (fun h => nomatch h) rfl (one_new _ _ _ _ (by simp)) (by simp [Value.oneCell']) (by unfold maxLen; omega) (by omega) (by simp; omega) ?_; intro v1 w1 hown1 hgrow1)
        have HE := Lib.hid (HC.out.last hke.out hcur.out ((Below.refl _ _).alloc (Nat.le_refl _) _) hown1 hgrow1)
        clear hown1 hgrow1
        go_wp2_with fail
        go_ret
        exact HE.out

end Go.Proofs.Ytbchfkocpnmdiaa.Word

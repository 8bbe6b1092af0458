/-
  Layer 13 (tree): argument, head.
-/
import Derived.Test.YtabpkpeonbdinaaDoorTreePrintP
import Derived.Test.YtabpkpeonbdinaaDoorTreeSame
import Derived.Test.YtabpkpeonbdinaaDoorLexPut
import Derived.Test.YtabpkpeonbdinaaDoorShelf
namespace Go.Proofs.YtabpkpeonbdinaaDoor.Tree
open Go.RowKit Go.Proofs.YtabpkpeonbdinaaDoor.Own Go.Proofs.YtabpkpeonbdinaaDoor.Rw Go.Proofs.YtabpkpeonbdinaaDoor.Lex

theorem argument_calls (s : ByteArray) (hs : s.size ≤ 1099511627776) (w : World) :
    Calls Tryd.prog 51 #[.string s] w fun e w' => e = .returned (.tuple #[.string ⟨(argT s.data.toList).toArray⟩, .int .i64 (argC s.data.toList)]) ∧ Below w.heap.size w w' := by
  have HP := Lib.hid fun k => put_calls k s 0 hs
  have HW := Lib.hid (wordy_calls s)
  unfold argT argC argK
  cases h : isW s.data.toList with
  | false =>
    rw [h] at HW
    have hp := Lib.hid (HP.out 2)
    rw [if_neg (by simp)]
    generalize ptT 2 s.data.toList = t at hp ⊢
    generalize ptC 2 s.data.toList = c at hp ⊢
    clear HP h
    go_enter Tryd.func51, Tryd.ntmps51
    go_wp2_with (first
      | (go_at_call 50; refine (HW.out _).mono ?_; rintro e w1 ⟨rfl, hb1⟩; have B1 := Lib.hid hb1; clear hb1)
      | (go_at_call 63; refine (hp.out _).mono ?_; rintro e w2 ⟨rfl, hb2⟩))
    go_ret2
    exact ⟨rfl, B1.out.trans (hb2.mono B1.out.size)⟩
  | true =>
    rw [h] at HW
    have hp := Lib.hid (HP.out 1)
    rw [if_pos rfl]
    generalize ptT 1 s.data.toList = t at hp ⊢
    generalize ptC 1 s.data.toList = c at hp ⊢
    clear HP h
    go_enter Tryd.func51, Tryd.ntmps51
    go_wp2_with (first
      | (go_at_call 50; refine (HW.out _).mono ?_; rintro e w1 ⟨rfl, hb1⟩; have B1 := Lib.hid hb1; clear hb1)
      | (go_at_call 63; refine (hp.out _).mono ?_; rintro e w2 ⟨rfl, hb2⟩))
    go_ret2
    exact ⟨rfl, B1.out.trans (hb2.mono B1.out.size)⟩

theorem join_row {w : World} {p : Option Addr} {n c : Nat} {ts : List (List UInt8)} (h : w.ownsRow 0 9 1 (.slice p n c) n (strs ts)) (hn : n = ts.length) (h0 : 0 < n) (hN : n ≤ 1000000) (hlen : (Lib.join ts [32]).length ≤ 140737488355328) :
    Calls Tryd.prog 52 #[.slice p n c, .string ⟨#[32]⟩] w fun e w' => e = .returned (.string ⟨(Lib.join ts [32]).toArray⟩) ∧ Below w.heap.size w w' := by
  obtain ⟨g, rfl, hg, c0⟩ := text_at h (i := 0) (by omega)
  obtain ⟨_, _, hv, hc, _⟩ := own_slice h
  injection hv with _ _ e
  subst e
  have hm : (ts.map fun t => (⟨t.toArray⟩ : ByteArray)).map (·.data.toList) = ts := by rw [List.map_map]; exact (List.map_congr_left (g := fun t => t) fun _ _ => rfl).trans (List.map_id' ts)
  have hl : (ts.map fun t => (⟨t.toArray⟩ : ByteArray)).length = ts.length := List.length_map ..
  have := Tryd.strings_Join g 0 c (ts.map fun t => (⟨t.toArray⟩ : ByteArray)) ⟨#[32]⟩ w (by
    intro j x hx
    obtain ⟨hj, rfl⟩ := List.getElem?_eq_some_iff.1 hx
    rw [hl] at hj
    obtain ⟨g', e', _, cj⟩ := text_at h hj
    cases e'
    rw [Nat.zero_add, List.getElem_map]
    exact cj) hg (by omega) (by omega) (by rw [hm]; exact hlen)
  rw [hm, hl, ← hn] at this
  exact this
theorem okArgs_snoc (al : List (List UInt8)) (a : List UInt8) : okArgs (al ++ [a]) = (okArgs al && (argC a == 0)) := by simp [okArgs]
theorem okArgs_bad {al : List (List UInt8)} {k : Nat} (h : k < al.length) (e : argC al[k] ≠ 0) : okArgs al = false := by
  cases h2 : okArgs al with
  | false => rfl
  | true => exact absurd (by simpa using (List.all_eq_true.1 h2) _ (List.getElem_mem h)) e
theorem awt_at {al : List (List UInt8)} {k : Nat} (h : k < al.length) : 2 * al[k].length + 3 ≤ awt al := by
  induction al generalizing k with
  | nil => simp at h
  | cons a al ih =>
    rw [awt_cons]
    cases k with
    | zero => simp only [List.getElem_cons_zero]; omega
    | succ k =>
      have := ih (k := k) (by simpa using h)
      simp only [List.getElem_cons_succ]; omega
theorem awt_le : ∀ al : List (List UInt8), al.length ≤ awt al
  | [] => by simp [awt]
  | a :: al => by have := awt_le al; rw [awt_cons, List.length_cons]; omega

/-- what head found of the arguments -/
structure HdAt (w wr : World) (key : List UInt8) (al : List (List UInt8)) (k : Nat) (v : Value) : Prop where
  own : wr.ownsRow w.heap.size 9 1 v (k + 1) (strs (key :: (al.take k).map argT))
  below : Below w.heap.size w wr
  ok : okArgs (al.take k) = true
theorem HdAt.step {w wr w5 w6 w1 : World} {key : List UInt8} {al : List (List UInt8)} {k : Nat} {v v' : Value} (h : HdAt w wr key al k v) (hk : k < al.length) (hb : Below wr.heap.size wr w5) (hb6 : Below w5.heap.size w5 w6)
    (hc : argC al[k] = 0) (ho : w1.ownsRow w.heap.size 9 1 v' (k + 1 + 1) (strs (key :: (al.take k).map argT) ++ [.string ⟨(argT al[k]).toArray⟩])) (hg : w6.grownBy w1 v.ownBlock) : HdAt w w1 key al (k + 1) v' := by
  have hs := h.below.size
  have hs5 := hb.size
  have hs6 := hb6.size
  refine ⟨?_, ?_, ?_⟩
  · rw [List.take_succ_eq_append_getElem hk, List.map_append, ← List.cons_append, strs_app]; exact ho
  · exact ((h.below.trans (hb.mono hs)).trans (hb6.mono (by omega))).grown hg (by omega) fun i e => (World.ownsRow.lt h.own i e).1
  · rw [List.take_succ_eq_append_getElem hk, okArgs_snoc, h.ok, hc]; rfl

set_option maxRecDepth 100000 in
set_option maxHeartbeats 4000000 in
theorem head_calls (x : Nd) (w : World) (pa pl : Option Addr) (ca cl : Nat) (ha : w.ownsRow 0 9 1 (.slice pa x.args.length ca) x.args.length (strs x.args)) (hsz : x.key.length + awt x.args ≤ 1099511627776) :
    Calls Tryd.prog 32 #[ndv x pa ca pl cl] w fun e w' => e = .returned (.tuple #[.string ⟨((headT x.key x.args).getD []).toArray⟩, .bool (headT x.key x.args).isSome]) ∧ Below w.heap.size w w' := by
  obtain ⟨i0, hi, hz0, hz1, hz2⟩ := info_parts (show (Tryd.prog.info? 9).map (fun i => (i.zero, i.size, i.bytes)) = some (some (.string ⟨#[]⟩), 1, 16) by kernel_rfl)
  have HA := Lib.hid ha
  have hal := awt_le x.args
  clear ha
  unfold ndv
  obtain ⟨key, al, bx, lx, nx⟩ := x
  simp only [Nd.key, Nd.args, Nd.block, Nd.list, Nd.line] at HA hsz hal ⊢
  have HW := Lib.hid (wordy_calls ⟨key.toArray⟩)
  rw [show (⟨key.toArray⟩ : ByteArray).data.toList = key from rfl] at HW
  obtain ⟨_, _, hv, hc1, hm1⟩ := own_slice HA.out
  injection hv with e1 z1 e2
  subst e1 e2
  clear z1
  unfold maxLen at hm1
  have HSZ := Lib.hid hsz
  have hks : key.length ≤ 1099511627776 := by omega
  have han : al.length ≤ 1099511627776 := by omega
  clear hsz hal
  obtain ⟨n, hn⟩ : ∃ n, n = al.length := ⟨_, rfl⟩
  rw [← hn] at HA hc1 han ⊢
  have HN := Lib.hid hn
  clear hn
  cases hk : isW key with
  | false =>
    have HT := Lib.hid (show headT key al = none by unfold headT; rw [if_neg (by simp [hk])])
    rw [hk] at HW
    go_enter Tryd.func32, Tryd.ntmps32
    go_wp2_with (go_at_call 50; refine (HW.out _).mono ?_; rintro e w1 ⟨rfl, hb1⟩; have B1 := Lib.hid (((Below.refl w.heap.size w).alloc (Nat.le_refl _) _).trans (hb1.mono (by simp))); clear hb1)
    go_ret2
    exact ⟨by rw [HT.out]; rfl, B1.out⟩
  | true =>
    rw [hk] at HW
    by_cases h16 : 16 < n
    · have q1 : (16 : Int) < (n : Int) := by omega
      have HT := Lib.hid (show headT key al = none by unfold headT; rw [if_neg (by rw [← HN.out]; omega)])
      go_enter Tryd.func32, Tryd.ntmps32
      go_wp2_with (go_at_call 50; refine (HW.out _).mono ?_; rintro e w1 ⟨rfl, hb1⟩; have n1 := (hb1.block _ (by simp)).trans (at_new w _); obtain ⟨⟨x0, x1, x2, x3, x4⟩, -⟩ := row5 n1; have B1 := Lib.hid (((Below.refl w.heap.size w).alloc (Nat.le_refl _) _).trans (hb1.mono (by simp))); clear hb1 n1)
      go_ret2
      exact ⟨by rw [HT.out]; rfl, B1.out⟩
    · have q1 : ¬ (16 : Int) < (n : Int) := by omega
      have HT := Lib.hid (show headT key al = if okArgs al = true then some (Lib.join (key :: al.map argT) [32]) else none by
        unfold headT
        cases okArgs al
        · rw [if_neg (by simp), if_neg (by simp)]
        · rw [if_pos ⟨hk, by rw [← HN.out]; omega, rfl⟩, if_pos rfl])
      clear hk
      go_enter Tryd.func32, Tryd.ntmps32
      go_wp2_with fail
      refine (HW.out _).mono ?_
      rintro e w1 ⟨rfl, hb1⟩
      have n1 := (hb1.block _ (by simp)).trans (at_new w _)
      obtain ⟨⟨x0, x1, x2, x3, x4⟩, -⟩ := row5 n1
      have hlt1 := at_lt n1
      have N1 := Lib.hid n1
      have B1 := Lib.hid (((Below.refl w.heap.size w).alloc (Nat.le_refl _) (.cells #[.string ⟨key.toArray⟩, .slice pa n ca, .bool bx, .slice pl lx.length cl, .int .i64 nx] 35)).trans (hb1.mono (by simp)))
      clear hb1 n1
      go_wp2_with fail
      go_loopw [4, 25] (fun tv i wr => ∃ k : Nat, k ≤ n ∧ i = .int .i64 k ∧ HdAt w wr key al k tv) (fun _ i _ => n - (intOf i).toNat)
      case atStart =>
        have := own_new w1 (strs [key]) 9 w1.heap.size rfl (by rw [strs_len]; unfold maxLen; simp)
        exact ⟨0, by omega, rfl, own_base this (by omega), B1.out.alloc (by omega) _, rfl⟩
      case round =>
        obtain ⟨k, hk, rfl, C⟩ := hrel
        rename World => wr
        have HC := Lib.hid C
        have hsz := C.below.size
        obtain ⟨tp, tc, rfl, -⟩ := own_slice C.own
        clear C
        rcases Nat.lt_or_eq_of_le hk with hlt | rfl
        · have hl1 : k < al.length := by rw [← HN.out]; exact hlt
          obtain ⟨g, rfl, hg, c0⟩ := text_at HA.out hl1
          have y0 := (HC.out.below.cell (p := ⟨g, k, none⟩) hg).trans c0
          have q2 : (k : Int) < (n : Int) := by omega
          have hal2 := awt_at hl1
          have HST := Lib.hid fun (w5 w6 w1 : World) (v' : Value) (hb : Below wr.heap.size wr w5) (hb6 : Below w5.heap.size w5 w6) (hc : argC al[k] = 0) (ho : w1.ownsRow w.heap.size 9 1 v' (k + 1 + 1) (strs (key :: (al.take k).map argT) ++ [.string ⟨(argT al[k]).toArray⟩])) (hg : w6.grownBy w1 (Value.slice tp (k + 1) tc).ownBlock) => HC.out.step hl1 hb hb6 hc ho hg
          have HBD := Lib.hid (okArgs_bad hl1)
          generalize al[k] = a at *
          have hsk : (⟨a.toArray⟩ : ByteArray).size ≤ 1099511627776 := by
            have := HSZ.out
            have e : (⟨a.toArray⟩ : ByteArray).size = a.length := by simp [ByteArray.size]
            omega
          have HAR := Lib.hid (argument_calls ⟨a.toArray⟩ hsk)
          rw [show (⟨a.toArray⟩ : ByteArray).data.toList = a from rfl] at HAR
          clear hsk hl1
          by_cases hc : argC a = 0
          · have HSTEP := Lib.hid fun w5 w6 w1 v' hb hb6 ho hg => HST.out w5 w6 w1 v' hb hb6 hc ho hg
            rw [hc] at HAR
            clear hc hal2 c0
            generalize argT a = t at *
            go_wp2_with (first
              | (go_at_call 51; refine (HAR.out _).mono ?_; rintro e w5 ⟨rfl, hb5⟩; have ho5 := own_below HC.out.own hb5; have HB5 := Lib.hid hb5; have h5 := hb5.size; clear hb5)
              | (at_builtin; go_loud (refine Own.append_any rfl (.tmp 36) (.tmp 38) 33 rfl w.heap.size 9 i0 _ 1 16 Tryd.underlying33 hi hz0 hz1 hz2 rfl (by decide) _ _ _ rfl (World.ownsRow.alloc ho5 _) _ 1 1 [.string ⟨t.toArray⟩] rfl (fun h => nomatch h) rfl (Rw.one_new _ _ _ _ rfl) (by simp [Value.oneCell']) (by unfold maxLen; omega) (by omega) (by simp; omega) ?_; intro v' w1 hown1 hgrow1; have C1 := Lib.hid (HSTEP.out _ _ _ _ HB5.out ((Below.refl _ _).alloc (Nat.le_refl _) _) hown1 hgrow1); clear hown1 hgrow1 ho5)))
            go_roundw
            case rel => exact ⟨k + 1, by omega, by go_num, C1.out⟩
            case measure => simp [intOf]; omega
          · have b1 : (argC a != 0) = true := by simpa using hc
            have HTN := Lib.hid (show headT key al = none by rw [HT.out, HBD.out hc]; rfl)
            clear hc hal2 c0 HST HBD
            generalize argC a = cc at *
            generalize argT a = t at *
            go_wp2_with (go_at_call 51; refine (HAR.out _).mono ?_; rintro e w5 ⟨rfl, hb5⟩)
            go_ret2
            exact ⟨by rw [HTN.out]; rfl, HC.out.below.trans (hb5.mono hsz)⟩
        · have HTS := Lib.hid (show headT key al = some (Lib.join (key :: al.map argT) [32]) by
            have := HC.out.ok
            rw [List.take_of_length_le (by have := HN.out; omega)] at this
            rw [HT.out, if_pos this])
          have hown := HC.out.own
          rw [List.take_of_length_le (by have := HN.out; omega)] at hown
          have HJ := Lib.hid (join_row (own_base hown (Nat.zero_le _)) (by have := HN.out; simp; omega) (by omega) (by omega) (by have := join_len key al; have := HSZ.out; omega))
          clear hown
          go_wp2_with (go_at_call 52; refine HJ.out.mono ?_; rintro e w5 ⟨rfl, hb5⟩)
          go_ret2
          exact ⟨by rw [HTS.out]; rfl, HC.out.below.trans (hb5.mono hsz)⟩
end Go.Proofs.YtabpkpeonbdinaaDoor.Tree

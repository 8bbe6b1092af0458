/-
  Layer 11 (store): the document's own store: a file, what comes ahead of a call, all files but one.
-/
import Derived.Test.YtememmgnhnldaaaDoorStoRef2
namespace Go.Proofs.YtememmgnhnldaaaDoor.Sto
open Go.RowKit Go.Proofs.YtememmgnhnldaaaDoor.Own
open Go.Proofs.YtememmgnhnldaaaDoor.Rw (str strs Row1)

theorem plat_lk {L : List Fl} (hr : Rise Fl.nm L) {a : Bs} {k : Int} (h : PlAt L a k) : (k = -1 ∧ flk L a = none) ∨ ∃ (i : Nat) (hi : i < L.length), k = i ∧ flk L a = some L[i] := by
  rcases h with ⟨h1, h2⟩ | ⟨i, hi, h1, h2⟩
  · exact .inl ⟨h1, lk_none.2 h2⟩
  · exact .inr ⟨i, hi, h1, hr.lk.2 ⟨List.getElem_mem hi, h2⟩⟩
/-- what Get tells -/
def GetPost (w : World) (L : List Fl) (a : Bs) (e : Ending) (w' : World) : Prop :=
  ∃ nmv, e = .returned (.tuple #[.agg #[str nmv, str (got L a).bs, .int .i64 ((got L a).sure : Int)], .bool (flk L a).isSome]) ∧ Below w.heap.size w w'
theorem get_none {w w' : World} {L : List Fl} {a : Bs} {e : Ending} (h : flk L a = none) (he : e = .returned (.tuple #[.agg #[.string ⟨#[]⟩, .string ⟨#[]⟩, .int .i64 0], .bool false])) (hb : Below w.heap.size w w') : GetPost w L a e w' :=
  ⟨[], by rw [he, got_none h, h]; rfl, hb⟩
theorem get_some {w w' : World} {L : List Fl} {a : Bs} {x : Fl} {e : Ending} (h : flk L a = some x) (he : e = .returned (.tuple #[.agg #[str x.nm, str x.bs, .int .i64 (x.sure : Int)], .bool true])) (hb : Below w.heap.size w w') : GetPost w L a e w' :=
  ⟨x.nm, by rw [he, got_some h, h]; rfl, hb⟩

set_option maxHeartbeats 1000000 in
theorem get_calls (L : List Fl) (p : Option Addr) (c n : Nat) (hn : L.length = n) (most bad : Int) (a : ByteArray) (w : World) (h : Fs w p c L) (hr : Rise Fl.nm L) :
    Calls Tryd.prog 34 #[rv p n c most bad, .string a] w (GetPost w L a.data.toList) := by
  have hb0 := ((Below.refl w.heap.size w).alloc (Nat.le_refl _) (.cells #[.slice p n c, .int .i64 most, .int .i64 bad] 26 (0, 0))).alloc (by simp) (.cells #[.string ⟨#[]⟩, .string ⟨#[]⟩, .int .i64 0] 68 (0, 0))
  have hP := Lib.hid (place_calls L p c n hn most bad a _ (h.below hb0))
  have HR := Lib.hid hr
  have H := Lib.hid h
  have HN := Lib.hid hn
  have hc := h.cap
  have hm := h.max
  rw [hn] at hc
  have hB0 := Lib.hid hb0
  have N1 := Lib.hid (at_old (w.alloc (.cells #[.slice p n c, .int .i64 most, .int .i64 bad] 26 (0, 0))) (.cells #[.string ⟨#[]⟩, .string ⟨#[]⟩, .int .i64 0] 68 (0, 0)) (at_new w (.cells #[.slice p n c, .int .i64 most, .int .i64 bad] 26 (0, 0))))
  have N2 := Lib.hid (at_newk (w.alloc (.cells #[.slice p n c, .int .i64 most, .int .i64 bad] 26 (0, 0))) (.cells #[.string ⟨#[]⟩, .string ⟨#[]⟩, .int .i64 0] 68 (0, 0)) (k := w.heap.size + 1) (by simp))
  clear h hn hr hb0
  go_enter Tryd.func34, Tryd.ntmps34
  go_wp2_with fail
  refine hP.out.mono ?_
  rintro e w2 ⟨k, rfl, hb, hk⟩
  have n0 := (at_cell ((hb.block _ (at_lt N1.out)).trans N1.out) 0 : _ = some _)
  have m0 := (at_cell ((hb.block _ (at_lt N2.out)).trans N2.out) 0 : _ = some _)
  have m1 := (at_cell ((hb.block _ (at_lt N2.out)).trans N2.out) 1 : _ = some _)
  have m2 := (at_cell ((hb.block _ (at_lt N2.out)).trans N2.out) 2 : _ = some _)
  have f0 := at_frozen ((hb.block _ (at_lt N2.out)).trans N2.out) 0
  have f1 := at_frozen ((hb.block _ (at_lt N2.out)).trans N2.out) 1
  have f2 := at_frozen ((hb.block _ (at_lt N2.out)).trans N2.out) 2
  have hB2 := Lib.hid (hB0.out.trans (hb.mono (by simp; omega)))
  clear hb
  rcases plat_lk HR.out hk with ⟨rfl, hl⟩ | ⟨i, hi, rfl, hl⟩
  · have HL := Lib.hid hl
    clear hl hk
    go_wp2_with fail
    refine bodyPost_ret (v := .tuple #[.agg #[.string ⟨#[]⟩, .string ⟨#[]⟩, .int .i64 0], .bool false]) ?_ rfl (get_none HL.out rfl (((hB2.out.setCell (p := ⟨_, _, _⟩) (Nat.le_succ _) _).setCell (p := ⟨_, _, _⟩) (Nat.le_succ _) _).setCell (p := ⟨_, _, _⟩) (Nat.le_succ _) _))
    simp [results, Tryd.results34, go_sem, *]
  · have HL := Lib.hid hl
    clear hl hk
    obtain ⟨b, o, rfl, hbl, c0, c1, c2⟩ := (H.out.below hB2.out).at_ hi
    have q1 : (i : Int) < (n : Int) := by have := HN.out; omega
    have q2 : (n : Int) ≤ 9223372036854775807 := by unfold maxLen at hm; omega
    rw [str] at c0 c1
    go_wp2_with fail
    refine bodyPost_ret (v := .tuple #[.agg #[str L[i].nm, str L[i].bs, .int .i64 (L[i].sure : Int)], .bool true]) ?_ rfl (get_some HL.out rfl (((hB2.out.setCell (p := ⟨_, _, _⟩) (Nat.le_succ _) _).setCell (p := ⟨_, _, _⟩) (Nat.le_succ _) _).setCell (p := ⟨_, _, _⟩) (Nat.le_succ _) _))
    simp [results, Tryd.results34, go_sem, str, *]

set_option maxHeartbeats 1000000 in
theorem rbegin_calls (r : St) (p : Option Addr) (c n : Nat) (a : ByteArray) (hz : a.size ≤ 1000000) (hb2 : r.bad ≤ 9223372036854775807) (w : World) :
    Calls Tryd.prog 32 #[rv p n c r.most r.bad, .string a] w fun e w' => e = .returned (.tuple #[rv p n c r.most (begT r a.data.toList).bad, .int .i64 (begC r a.data.toList)]) ∧ Below w.heap.size w w' := by
  obtain ⟨most, hmost⟩ : ∃ x, r.most = x := ⟨_, rfl⟩
  obtain ⟨bad, hbad⟩ : ∃ x, r.bad = x := ⟨_, rfl⟩
  have hN := fun W => rnamed_calls a hz W
  rw [hbad] at hb2
  cases hn : isNm a.data.toList with
  | false =>
    obtain ⟨e1, e2⟩ := begC_arg (t := r) hn
    rw [e1, e2, hmost, hbad]
    rw [hn] at hN
    clear e1 e2 hmost hbad
    go_enter Tryd.func32, Tryd.ntmps32
    go_wp2_with (go_at_call 43; refine (hN _).mono ?_; rintro e w' ⟨rfl, rfl⟩)
    refine bodyPost_ret (v := .tuple #[rv p n c most bad, .int .i64 1]) ?_ rfl ⟨rfl, ?_⟩
    · simp [results, Tryd.results32, go_sem, *]
    · exact ((Below.refl _ _).alloc (Nat.le_refl _) _).alloc (by simp) _
  | true =>
    rw [hn] at hN
    by_cases hb : 0 < r.bad
    · obtain ⟨e1, e2⟩ := begC_io hn hb
      rw [e1, e2, hmost, hbad]
      rw [hbad] at hb
      clear e1 e2 hmost hbad
      go_enter Tryd.func32, Tryd.ntmps32
      go_wp2_with (go_at_call 43; refine (hN _).mono ?_; rintro e w' ⟨rfl, rfl⟩)
      refine bodyPost_ret (v := .tuple #[rv p n c most (bad - 1), .int .i64 12]) ?_ rfl ⟨rfl, ?_⟩
      · simp [results, Tryd.results32, go_sem, *]
      · exact ((Below.refl _ _).alloc (Nat.le_refl _) _).alloc (by simp) _
    · obtain ⟨e1, e2⟩ := begC_ok hn hb
      rw [e1, e2, hmost, hbad]
      rw [hbad] at hb
      clear e1 e2 hmost hbad
      go_enter Tryd.func32, Tryd.ntmps32
      go_wp2_with (go_at_call 43; refine (hN _).mono ?_; rintro e w' ⟨rfl, rfl⟩)
      refine bodyPost_ret (v := .tuple #[rv p n c most bad, .int .i64 0]) ?_ rfl ⟨rfl, ?_⟩
      · simp [results, Tryd.results32, go_sem, *]
      · exact ((Below.refl _ _).alloc (Nat.le_refl _) _).alloc (by simp) _

/-- what is appended so far, in without -/
structure WoAt (w wr : World) (M : List Fl) (v : Value) : Prop where
  own : wr.ownsRow w.heap.size 68 3 v M.length (fvs M)
  below : Below w.heap.size w wr
theorem WoAt.start (w : World) : WoAt w w [] (.slice none 0 0) := ⟨World.ownsRow_nil _ _ _ _, Below.refl _ _⟩
theorem WoAt.step {w wr wb w1 : World} {M N : List Fl} {v v' : Value} {n : Nat} {news : List Value} (h : WoAt w wr M v) (hb : Below w.heap.size wr wb) (hn : n = N.length) (he : news = fvs N)
    (ho : w1.ownsRow w.heap.size 68 3 v' (M.length + n) (fvs M ++ news)) (hg : wb.grownBy w1 v.ownBlock) : WoAt w w1 (M ++ N) v' := by
  subst hn he
  refine ⟨?_, ?_⟩
  · rw [List.length_append, fvs_app]; exact ho
  · exact (h.below.trans hb).grown hg (Nat.le_trans h.below.size hb.size) (fun k hk => (World.ownsRow.lt h.own k hk).1)
theorem wo_snoc (L : List Fl) (a : Bs) {k : Nat} (h : k < L.length) : fwo (L.take (k + 1)) a = fwo (L.take k) a ++ (if L[k].nm = a then [] else [L[k]]) := by
  rw [List.take_add_one, List.getElem?_eq_getElem h]
  unfold fwo wo
  rw [List.filter_append]
  congr 1
  by_cases hc : L[k].nm = a <;> simp [hc]

set_option maxRecDepth 100000 in
set_option maxHeartbeats 4000000 in
theorem without_calls (L : List Fl) (p : Option Addr) (c n : Nat) (hn : L.length = n) (hN : n ≤ 1000000) (a : ByteArray) (w : World) (h : Fs w p c L) :
    Calls Tryd.prog 45 #[.slice p n c, .string a] w fun e w' => ∃ v, e = .returned v ∧ WoAt w w' (fwo L a.data.toList) v := by
  obtain ⟨i0, hi, hz0, hz1, hz2⟩ := info_parts info_file
  have H := Lib.hid h
  have HN := Lib.hid hn
  have hc := h.cap
  have hm := h.max
  rw [hn] at hc
  clear h hn
  go_enter Tryd.func45, Tryd.ntmps45
  go_wp2_with fail
  go_loopw [5, 6] (fun v i wr => ∃ k : Nat, k ≤ n ∧ i = .int .i64 k ∧ WoAt w wr (fwo (L.take k) a.data.toList) v) (fun _ i _ => n - (intOf i).toNat)
  case atStart => exact ⟨0, by omega, rfl, WoAt.start w⟩
  case round =>
    rename World => wo_
    obtain ⟨k, hk, rfl, C⟩ := hrel
    by_cases hlt : k < n
    · have hkL : k < L.length := by rw [HN.out]; exact hlt
      obtain ⟨b, o, rfl, hbl, c0, c1, c2⟩ := (H.out.below C.below).at_ hkL
      have hsn := wo_snoc L a.data.toList hkL
      obtain ⟨x, hx⟩ : ∃ s : ByteArray, s = ⟨(L[k].nm).toArray⟩ := ⟨_, rfl⟩
      obtain ⟨y, hy⟩ : ∃ s : ByteArray, s = ⟨(L[k].bs).toArray⟩ := ⟨_, rfl⟩
      obtain ⟨S, hS⟩ : ∃ s : Int, s = (L[k].sure : Int) := ⟨_, rfl⟩
      rw [str, ← hx] at c0
      rw [str, ← hy] at c1
      rw [← hS] at c2
      have hxn : x.data.toList = L[k].nm := by rw [hx]
      have hfv : fvs [L[k]] = [.string x, .string y, .int .i64 S] := by rw [hx, hy, hS]; rfl
      have HFV := Lib.hid hfv
      have q1 : (k : Int) < (n : Int) := by omega
      have q2 : (n : Int) ≤ 9223372036854775807 := by unfold maxLen at hm; omega
      have hMl : (fwo (L.take k) a.data.toList).length ≤ k := Nat.le_trans (wo_len _ _) (by rw [List.length_take]; omega)
      obtain ⟨M, hM⟩ : ∃ M, fwo (L.take k) a.data.toList = M := ⟨_, rfl⟩
      rw [hM] at C hsn hMl
      have HC := Lib.hid C
      clear hx hy hS hfv hM C
      by_cases hxa : x = a
      · have hb' : (x.toList != a.toList) = false := by have := text_same hxa; rw [bne, this]; rfl
        have hb2 := text_same hxa
        have HS : Hid (fwo (L.take (k + 1)) a.data.toList = M) := Lib.hid (by rw [hsn, if_pos (by rw [← hxn, hxa]), List.append_nil])
        clear hsn
        replace hxa := Lib.hid hxa
        replace hxn := Lib.hid hxn
        go_wp2_with fail
        go_roundw
        case rel => exact ⟨k + 1, by omega, by go_num, by rw [HS.out]; exact HC.out⟩
        case measure => simp [intOf]; omega
      · have hb' : (x.toList != a.toList) = true := by have := text_other hxa; rw [bne, this]; rfl
        have hb2 := text_other hxa
        have hxa' : L[k].nm ≠ a.data.toList := fun e => hxa (by rw [← hxn] at e; cases x; cases a; simp only at e; congr 1; exact Array.toList_inj.1 e)
        have HS : Hid (fwo (L.take (k + 1)) a.data.toList = M ++ [L[k]]) := Lib.hid (by rw [hsn, if_neg hxa'])
        clear hsn hxa'
        replace hxa := Lib.hid hxa
        replace hxn := Lib.hid hxn
        have z1 := HC.out.below.size
        have hMl2 : M.length ≤ 1000000 := by omega
        go_wp2_with (at_builtin; refine append_any rfl _ _ 24 rfl w.heap.size 68 i0 _ 3 40 Tryd.underlying24 hi hz0 hz1 hz2 rfl (by decide) _ M.length (fvs M) rfl (World.ownsRow.alloc HC.out.own _) (some ⟨wo_.heap.size, 0, none⟩) 1 1 [.string x, .string y, .int .i64 S] rfl (fun h => nomatch h) rfl (three_new _ _ _ _ _ _ rfl) (by rw [← HFV.out]; exact fvs_one _) (by unfold maxLen; omega) (by omega) (by simp; omega) ?_; intro v1 w1 own1 grow1; replace own1 := Lib.hid own1; replace grow1 := Lib.hid grow1)
        have C2 := Lib.hid (HC.out.step (N := [L[k]]) ((Below.refl _ _).alloc z1 _) rfl HFV.out.symm own1.out grow1.out)
        clear own1 grow1
        go_roundw
        case rel => exact ⟨k + 1, by omega, by go_num, by rw [HS.out]; exact C2.out⟩
        case measure => simp [intOf]; omega
    · have q1 : ¬ (k : Int) < (n : Int) := by omega
      have HC := Lib.hid C
      clear C
      go_wp2_with fail
      go_ret
      have e : L.take k = L := List.take_of_length_le (by have := HN.out; omega)
      exact ⟨_, rfl, by have := HC.out; rw [e] at this; exact this⟩
end Go.Proofs.YtememmgnhnldaaaDoor.Sto

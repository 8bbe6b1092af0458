/-
Layer 11 (store): the document's own store: a file, what comes ahead of a call, all files but one.
Layer 11 (store): the document's own store: a file is put in its place.
Layer 11 (store): what a call of the document's leaves. Written by gen_storef5.py.
Layer 11 (store): the document's own Sync. Written by gen_storef5.py.
Layer 21 (gens), the document's: Held, All.
Layer 11 (store): the document's own Remove. Written by gen_storef5.py.
Layer 11 (store): the document's own Rename. Written by gen_storef5.py.
Layer 21 (gens): a slice of files that came in.
Layer 11 (store): a store and the document's, side by side.
-/
import Derived.Test.YtngangdjbbbbdaaGreatDoorPack9
import Derived.Deep.Slices
import Derived.Sort.Walk0
import Derived.Deep.RegionHeld3
import Derived.Deep.RegionWith
section
namespace Go.Proofs.YtngangdjbbbbdaaGreatDoor.Sto
open Go.RowKit Go.Proofs.YtngangdjbbbbdaaGreatDoor.Own
open Go.Proofs.YtngangdjbbbbdaaGreatDoor.Rw (str strs Row1)

theorem plat_lk {L : List Fl} (hr : Rise Fl.nm L) {a : Bs} {k : Int} (h : PlAt L a k) : (k = -1 ∧ flk L a = none) ∨ ∃ (i : Nat) (hi : i < L.length), k = i ∧ flk L a = some L[i] := by
  rcases h with ⟨h1, h2⟩ | ⟨i, hi, h1, h2⟩
  · exact .inl ⟨h1, lk_none.2 h2⟩
  · exact .inr ⟨i, hi, h1, hr.lk.2 ⟨List.getElem_mem hi, h2⟩⟩
/-- what Get tells -/
def GetPost (w : World) (L : List Fl) (a : Bs) (e : Ending) (w' : World) : Prop :=
  ∃ nmv, e = .returned (.tuple #[.agg #[str nmv, str (got L a).bs, .int .i64 ((got L a).sure : Int)], .bool (flk L a).isSome]) ∧ Below w.heap.size w w'
theorem get_none {w w' : World} {L : List Fl} {a : Bs} {e : Ending} (h : flk L a = none) (he : e = .returned (.tuple #[.agg #[.string ⟨#[]⟩, .string ⟨#[]⟩, .int .i64 0], .bool false])) (hb : Below w.heap.size w w') : GetPost w L a e w' :=
  ⟨[], by rw [he, got_none h, h]; rfl, hb⟩
theorem get_some {w w' : World} {L : List Fl} {a : Bs} {x : Fl} {e : Ending} (h : flk L a = some x) (he : e = .returned (.tuple #[.agg #[str x.nm, str x.bs, .int .i64 (x.sure : Int)], .bool true])) (hb : Below w.heap.size w w') : GetPost w L a e w' :=
  ⟨x.nm, by rw [he, got_some h, h]; rfl, hb⟩

set_option maxHeartbeats 1000000 in
theorem get_calls (L : List Fl) (p : Option Addr) (c n : Nat) (hn : L.length = n) (most bad : Int) (a : ByteArray) (w : World) (h : Fs w p c L) (hr : Rise Fl.nm L) :
    Calls Tryz.prog 32 #[rv p n c most bad, .string a] w (GetPost w L a.data.toList) := by
  have hb0 := ((Below.refl w.heap.size w).alloc (Nat.le_refl _) (.cells #[.slice p n c, .int .i64 most, .int .i64 bad] 27 (0, 0))).alloc (by simp) (.cells #[.string ⟨#[]⟩, .string ⟨#[]⟩, .int .i64 0] 79 (0, 0))
  have hP := Lib.hid (place_calls L p c n hn most bad a _ (h.below hb0))
  have HR := Lib.hid hr
  have H := Lib.hid h
  have HN := Lib.hid hn
  have hc := h.cap
  have hm := h.max
  rw [hn] at hc
  have hB0 := Lib.hid hb0
  have N1 := Lib.hid (at_old (w.alloc (.cells #[.slice p n c, .int .i64 most, .int .i64 bad] 27 (0, 0))) (.cells #[.string ⟨#[]⟩, .string ⟨#[]⟩, .int .i64 0] 79 (0, 0)) (at_new w (.cells #[.slice p n c, .int .i64 most, .int .i64 bad] 27 (0, 0))))
  have N2 := Lib.hid (at_newk (w.alloc (.cells #[.slice p n c, .int .i64 most, .int .i64 bad] 27 (0, 0))) (.cells #[.string ⟨#[]⟩, .string ⟨#[]⟩, .int .i64 0] 79 (0, 0)) (k := w.heap.size + 1) (by simp))
  clear h hn hr hb0
  go_enter Tryz.func32, Tryz.ntmps32
  go_wp2_with fail
  refine hP.out.mono ?_
  rintro e w2 ⟨k, rfl, hb, hk⟩
  have n0 := (at_cell ((hb.block _ (at_lt N1.out)).trans N1.out) 0 : _ = some _)
  have m0 := (at_cell ((hb.block _ (at_lt N2.out)).trans N2.out) 0 : _ = some _)
  have m1 := (at_cell ((hb.block _ (at_lt N2.out)).trans N2.out) 1 : _ = some _)
  have m2 := (at_cell ((hb.block _ (at_lt N2.out)).trans N2.out) 2 : _ = some _)
  have f0 := at_frozen ((hb.block _ (at_lt N2.out)).trans N2.out) 0
  have f1 := at_frozen ((hb.block _ (at_lt N2.out)).trans N2.out) 1
  have f2 := at_frozen ((hb.block _ (at_lt N2.out)).trans N2.out) 2
  have hB2 := Lib.hid (hB0.out.trans (hb.mono (by simp; omega)))
  clear hb
  rcases plat_lk HR.out hk with ⟨rfl, hl⟩ | ⟨i, hi, rfl, hl⟩
  · have HL := Lib.hid hl
    clear hl hk
    go_wp2_with fail
    refine bodyPost_ret (v := .tuple #[.agg #[.string ⟨#[]⟩, .string ⟨#[]⟩, .int .i64 0], .bool false]) ?_ rfl (get_none HL.out rfl (((hB2.out.setCell (p := ⟨_, _, _⟩) (Nat.le_succ _) _).setCell (p := ⟨_, _, _⟩) (Nat.le_succ _) _).setCell (p := ⟨_, _, _⟩) (Nat.le_succ _) _))
    simp [results, Tryz.results32, go_sem, *]
  · have HL := Lib.hid hl
    clear hl hk
    obtain ⟨b, o, rfl, hbl, c0, c1, c2⟩ := (H.out.below hB2.out).at_ hi
    have q1 : (i : Int) < (n : Int) := by have := HN.out; omega
    have q2 : (n : Int) ≤ 9223372036854775807 := by unfold maxLen at hm; omega
    rw [str] at c0 c1
    go_wp2_with fail
    refine bodyPost_ret (v := .tuple #[.agg #[str L[i].nm, str L[i].bs, .int .i64 (L[i].sure : Int)], .bool true]) ?_ rfl (get_some HL.out rfl (((hB2.out.setCell (p := ⟨_, _, _⟩) (Nat.le_succ _) _).setCell (p := ⟨_, _, _⟩) (Nat.le_succ _) _).setCell (p := ⟨_, _, _⟩) (Nat.le_succ _) _))
    simp [results, Tryz.results32, go_sem, str, *]

set_option maxHeartbeats 1000000 in
theorem rbegin_calls (r : St) (p : Option Addr) (c n : Nat) (a : ByteArray) (hz : a.size ≤ 1000000) (hb2 : r.bad ≤ 9223372036854775807) (w : World) :
    Calls Tryz.prog 41 #[rv p n c r.most r.bad, .string a] w fun e w' => e = .returned (.tuple #[rv p n c r.most (begT r a.data.toList).bad, .int .i64 (begC r a.data.toList)]) ∧ Below w.heap.size w w' := by
  obtain ⟨most, hmost⟩ : ∃ x, r.most = x := ⟨_, rfl⟩
  obtain ⟨bad, hbad⟩ : ∃ x, r.bad = x := ⟨_, rfl⟩
  have hN := fun W => rnamed_calls a hz W
  rw [hbad] at hb2
  cases hn : isNm a.data.toList with
  | false =>
    obtain ⟨e1, e2⟩ := begC_arg (t := r) hn
    rw [e1, e2, hmost, hbad]
    rw [hn] at hN
    clear e1 e2 hmost hbad
    go_enter Tryz.func41, Tryz.ntmps41
    go_wp2_with (go_at_call 64; refine (hN _).mono ?_; rintro e w' ⟨rfl, rfl⟩)
    refine bodyPost_ret (v := .tuple #[rv p n c most bad, .int .i64 1]) ?_ rfl ⟨rfl, ?_⟩
    · simp [results, Tryz.results41, go_sem, *]
    · exact ((Below.refl _ _).alloc (Nat.le_refl _) _).alloc (by simp) _
  | true =>
    rw [hn] at hN
    by_cases hb : 0 < r.bad
    · obtain ⟨e1, e2⟩ := begC_io hn hb
      rw [e1, e2, hmost, hbad]
      rw [hbad] at hb
      clear e1 e2 hmost hbad
      go_enter Tryz.func41, Tryz.ntmps41
      go_wp2_with (go_at_call 64; refine (hN _).mono ?_; rintro e w' ⟨rfl, rfl⟩)
      refine bodyPost_ret (v := .tuple #[rv p n c most (bad - 1), .int .i64 12]) ?_ rfl ⟨rfl, ?_⟩
      · simp [results, Tryz.results41, go_sem, *]
      · exact ((Below.refl _ _).alloc (Nat.le_refl _) _).alloc (by simp) _
    · obtain ⟨e1, e2⟩ := begC_ok hn hb
      rw [e1, e2, hmost, hbad]
      rw [hbad] at hb
      clear e1 e2 hmost hbad
      go_enter Tryz.func41, Tryz.ntmps41
      go_wp2_with (go_at_call 64; refine (hN _).mono ?_; rintro e w' ⟨rfl, rfl⟩)
      refine bodyPost_ret (v := .tuple #[rv p n c most bad, .int .i64 0]) ?_ rfl ⟨rfl, ?_⟩
      · simp [results, Tryz.results41, go_sem, *]
      · exact ((Below.refl _ _).alloc (Nat.le_refl _) _).alloc (by simp) _

/-- what is appended so far, in without -/
structure WoAt (w wr : World) (M : List Fl) (v : Value) : Prop where
  own : wr.ownsRow w.heap.size 79 3 v M.length (fvs M)
  below : Below w.heap.size w wr
theorem WoAt.start (w : World) : WoAt w w [] (.slice none 0 0) := ⟨World.ownsRow_nil _ _ _ _, Below.refl _ _⟩
theorem WoAt.step {w wr wb w1 : World} {M N : List Fl} {v v' : Value} {n : Nat} {news : List Value} (h : WoAt w wr M v) (hb : Below w.heap.size wr wb) (hn : n = N.length) (he : news = fvs N)
    (ho : w1.ownsRow w.heap.size 79 3 v' (M.length + n) (fvs M ++ news)) (hg : wb.grownBy w1 v.ownBlock) : WoAt w w1 (M ++ N) v' := by
  subst hn he
  refine ⟨?_, ?_⟩
  · rw [List.length_append, fvs_app]; exact ho
  · exact (h.below.trans hb).grown hg (Nat.le_trans h.below.size hb.size) (fun k hk => (World.ownsRow.lt h.own k hk).1)
theorem wo_snoc (L : List Fl) (a : Bs) {k : Nat} (h : k < L.length) : fwo (L.take (k + 1)) a = fwo (L.take k) a ++ (if L[k].nm = a then [] else [L[k]]) := by
  rw [List.take_add_one, List.getElem?_eq_getElem h]
  unfold fwo wo
  rw [List.filter_append]
  congr 1
  by_cases hc : L[k].nm = a <;> simp [hc]

set_option maxRecDepth 100000 in
set_option maxHeartbeats 4000000 in
theorem without_calls (L : List Fl) (p : Option Addr) (c n : Nat) (hn : L.length = n) (hN : n ≤ 1000000) (a : ByteArray) (w : World) (h : Fs w p c L) :
    Calls Tryz.prog 63 #[.slice p n c, .string a] w fun e w' => ∃ v, e = .returned v ∧ WoAt w w' (fwo L a.data.toList) v := by
  obtain ⟨i0, hi, hz0, hz1, hz2⟩ := info_parts info_file
  have H := Lib.hid h
  have HN := Lib.hid hn
  have hc := h.cap
  have hm := h.max
  rw [hn] at hc
  clear h hn
  go_enter Tryz.func63, Tryz.ntmps63
  go_wp2_with fail
  go_loopw [5, 6] (fun v i wr => ∃ k : Nat, k ≤ n ∧ i = .int .i64 k ∧ WoAt w wr (fwo (L.take k) a.data.toList) v) (fun _ i _ => n - (intOf i).toNat)
  case atStart => exact ⟨0, by omega, rfl, WoAt.start w⟩
  case round =>
    rename World => wo_
    obtain ⟨k, hk, rfl, C⟩ := hrel
    by_cases hlt : k < n
    · have hkL : k < L.length := by rw [HN.out]; exact hlt
      obtain ⟨b, o, rfl, hbl, c0, c1, c2⟩ := (H.out.below C.below).at_ hkL
      have hsn := wo_snoc L a.data.toList hkL
      obtain ⟨x, hx⟩ : ∃ s : ByteArray, s = ⟨(L[k].nm).toArray⟩ := ⟨_, rfl⟩
      obtain ⟨y, hy⟩ : ∃ s : ByteArray, s = ⟨(L[k].bs).toArray⟩ := ⟨_, rfl⟩
      obtain ⟨S, hS⟩ : ∃ s : Int, s = (L[k].sure : Int) := ⟨_, rfl⟩
      rw [str, ← hx] at c0
      rw [str, ← hy] at c1
      rw [← hS] at c2
      have hxn : x.data.toList = L[k].nm := by rw [hx]
      have hfv : fvs [L[k]] = [.string x, .string y, .int .i64 S] := by rw [hx, hy, hS]; rfl
      have HFV := Lib.hid hfv
      have q1 : (k : Int) < (n : Int) := by omega
      have q2 : (n : Int) ≤ 9223372036854775807 := by unfold maxLen at hm; omega
      have hMl : (fwo (L.take k) a.data.toList).length ≤ k := Nat.le_trans (wo_len _ _) (by rw [List.length_take]; omega)
      obtain ⟨M, hM⟩ : ∃ M, fwo (L.take k) a.data.toList = M := ⟨_, rfl⟩
      rw [hM] at C hsn hMl
      have HC := Lib.hid C
      clear hx hy hS hfv hM C
      by_cases hxa : x = a
      · have hb' : (x.toList != a.toList) = false := by have := text_same hxa; rw [bne, this]; rfl
        have hb2 := text_same hxa
        have HS : Hid (fwo (L.take (k + 1)) a.data.toList = M) := Lib.hid (by rw [hsn, if_pos (by rw [← hxn, hxa]), List.append_nil])
        clear hsn
        replace hxa := Lib.hid hxa
        replace hxn := Lib.hid hxn
        go_wp2_with fail
        go_roundw
        case rel => exact ⟨k + 1, by omega, by go_num, by rw [HS.out]; exact HC.out⟩
        case measure => simp [intOf]; omega
      · have hb' : (x.toList != a.toList) = true := by have := text_other hxa; rw [bne, this]; rfl
        have hb2 := text_other hxa
        have hxa' : L[k].nm ≠ a.data.toList := fun e => hxa (by rw [← hxn] at e; cases x; cases a; simp only at e; congr 1; exact Array.toList_inj.1 e)
        have HS : Hid (fwo (L.take (k + 1)) a.data.toList = M ++ [L[k]]) := Lib.hid (by rw [hsn, if_neg hxa'])
        clear hsn hxa'
        replace hxa := Lib.hid hxa
        replace hxn := Lib.hid hxn
        have z1 := HC.out.below.size
        have hMl2 : M.length ≤ 1000000 := by omega
        go_wp2_with (at_builtin; refine append_any rfl _ _ 25 rfl w.heap.size 79 i0 _ 3 40 Tryz.underlying25 hi hz0 hz1 hz2 rfl (by decide) _ M.length (fvs M) rfl (World.ownsRow.alloc HC.out.own _) (some ⟨wo_.heap.size, 0, none⟩) 1 1 [.string x, .string y, .int .i64 S] rfl (fun h => nomatch h) rfl (three_new _ _ _ _ _ _ rfl) (by rw [← HFV.out]; exact fvs_one _) (by unfold maxLen; omega) (by omega) (by simp; omega) ?_; intro v1 w1 own1 grow1; replace own1 := Lib.hid own1; replace grow1 := Lib.hid grow1)
        have C2 := Lib.hid (HC.out.step (N := [L[k]]) ((Below.refl _ _).alloc z1 _) rfl HFV.out.symm own1.out grow1.out)
        clear own1 grow1
        go_roundw
        case rel => exact ⟨k + 1, by omega, by go_num, by rw [HS.out]; exact C2.out⟩
        case measure => simp [intOf]; omega
    · have q1 : ¬ (k : Int) < (n : Int) := by omega
      have HC := Lib.hid C
      clear C
      go_wp2_with fail
      go_ret
      have e : L.take k = L := List.take_of_length_le (by have := HN.out; omega)
      exact ⟨_, rfl, by have := HC.out; rw [e] at this; exact this⟩
end Go.Proofs.YtngangdjbbbbdaaGreatDoor.Sto
end

section
namespace Go.Proofs.YtngangdjbbbbdaaGreatDoor.Sto
open Go.RowKit Go.Proofs.YtngangdjbbbbdaaGreatDoor.Own
open Go.Proofs.YtngangdjbbbbdaaGreatDoor.Rw (str strs Row1 below_drew)

theorem below_nil {wo wx w1 : World} {v : Value} (hb : Below wo.heap.size wo wx) (hg : wx.grownBy w1 v.ownBlock) (hv : v.ownBlock = none) : Below wo.heap.size wo w1 :=
  hb.grown hg hb.size (fun k hk => by rw [hv] at hk; cases hk)
theorem grown_row {wo wx wy w1 : World} {v : Value} {n s : Nat} {e : TypeId} {xs : List Value} (ho : wx.ownsRow wo.heap.size e s v n xs) (hy : Below wo.heap.size wo wy) (hg : wy.grownBy w1 v.ownBlock) : Below wo.heap.size wo w1 :=
  hy.grown hg hy.size (fun k hk => (World.ownsRow.lt ho k hk).1)

/-- a row of files, cut in two -/
structure Halv (wo : World) (p : Option Addr) (n c k r : Nat) (xs ys : List Value) (p1 : Option Addr) (c1 : Nat) (p2 : Option Addr) (c2 : Nat) : Prop where
  s1 : ∀ W, (Instr.sliceAt 25 (.slice p n c) none (some (.int .i64 k)) none).run Tryz.prog W = .ok (.slice p1 k c1) W
  s2 : ∀ W, (Instr.sliceAt 25 (.slice p n c) (some (.int .i64 k)) none none).run Tryz.prog W = .ok (.slice p2 r c2) W
  q1 : p1 = none → k = 0 ∧ c1 = 0
  q2 : p2 = none → r = 0 ∧ c2 = 0
  h1 : ∀ w', Below wo.heap.size wo w' → ∀ ad, p1 = some ad → ∀ j u, xs[j]? = some u → w'.cell? (ad.add j) = some u
  h2 : ∀ w', Below wo.heap.size wo w' → ∀ ad, p2 = some ad → ∀ j u, ys[j]? = some u → w'.cell? (ad.add j) = some u
theorem halves {wo : World} {n c k r : Nat} {p : Option Addr} {M : List Fl} (h : Fs wo p c M) (hp : ∀ b o, p = some ⟨b, o, none⟩ → o = 0) (hsp : ∀ a, p = some a → ∃ b o, a = ⟨b, o, none⟩) (hn : M.length = n) (hr : n = k + r) : ∃ p1 c1 p2 c2, Halv wo p n c k r (fvs (M.take k)) (fvs (M.drop k)) p1 c1 p2 c2 := by
  have hel : Tryz.prog.elem 25 = 79 := by simp [Program.elem, Tryz.underlying25]
  have ht : Tryz.prog.underlying 25 = some (.slice (Tryz.prog.elem 25)) := by rw [hel]; exact Tryz.underlying25
  have hcap := h.cap
  have r1 : ∀ (W : World) (hk : k ≤ c), (Instr.sliceAt 25 (.slice p n c) none (some (.int .i64 k)) none).run Tryz.prog W = .ok (sliced p 0 k c 3) W := by
    intro W hk
    rw [run_sliceAt_slice W _ _ _ _ _ ht, run_slice_h W _ _ _ _ ht .i64 k (by omega) (by omega), hel, Tryz.sizeOf79, Int.toNat_natCast]; rfl
  have r2 : ∀ (W : World), (Instr.sliceAt 25 (.slice p n c) (some (.int .i64 k)) none none).run Tryz.prog W = .ok (sliced p k n c 3) W := by
    intro W
    rw [run_sliceAt_slice W _ _ _ _ _ ht, run_slice_l W _ _ _ _ ht .i64 k (by omega) (by omega), hel, Tryz.sizeOf79, Int.toNat_natCast]; rfl
  cases hpp : p with
  | none =>
    subst hpp
    have h0 := h.nil rfl
    subst h0
    obtain rfl : k = 0 := by omega
    obtain rfl : r = 0 := by omega
    obtain rfl : n = 0 := by omega
    exact ⟨none, 0, none, 0, fun W => by rw [r1 W (by omega)]; simp [sliced], fun W => by rw [r2 W]; simp [sliced], fun _ => ⟨rfl, rfl⟩, fun _ => ⟨rfl, rfl⟩, by rintro _ _ _ ⟨⟩, by rintro _ _ _ ⟨⟩⟩
  | some a =>
    obtain ⟨g, o, rfl⟩ := hsp a hpp
    obtain rfl := hp g o hpp
    subst hpp
    have hcell : ∀ w', Below wo.heap.size wo w' → ∀ j u, (fvs M)[j]? = some u → w'.cell? ⟨g, j, none⟩ = some u := fun w' hb j u hu => by
      rcases h.cells with h0 | ⟨b, o, e, hl, hc⟩
      · rw [h0] at hu; simp [fvs] at hu
      · cases e
        have := hc j u hu
        rw [Nat.zero_add] at this
        exact (hb.cell (p := ⟨g, j, none⟩) hl).trans this
    have ht1 : fvs (M.take k) = (fvs M).take (k * 3) := by
      have e := fvs_app (M.take k) (M.drop k)
      rw [List.take_append_drop] at e
      have hl : (fvs (M.take k)).length = k * 3 := by rw [fvs_len, List.length_take]; omega
      rw [e, ← hl, List.take_left]
    have ht2 : fvs (M.drop k) = (fvs M).drop (k * 3) := by
      have e := fvs_app (M.take k) (M.drop k)
      rw [List.take_append_drop] at e
      have hl : (fvs (M.take k)).length = k * 3 := by rw [fvs_len, List.length_take]; omega
      rw [e, ← hl, List.drop_left]
    refine ⟨some ⟨g, 0, none⟩, c, some (if c = k then ⟨g, 0, none⟩ else ⟨g, k * 3, none⟩), c - k, fun W => ?_, fun W => ?_, (fun h => nomatch h), (fun h => nomatch h), ?_, ?_⟩
    · rw [r1 W (by omega)]
      simp only [sliced, Option.map_some, Nat.zero_mul, Nat.sub_zero]
      split <;> simp [add0]
    · rw [r2 W]
      simp only [sliced, Option.map_some, add0, show n - k = r by omega]
      split <;> rfl
    · rintro w' hb ad ⟨⟩ j u hu
      rw [add0]
      refine hcell w' hb j u ?_
      rw [ht1, List.getElem?_take] at hu
      split at hu
      · exact hu
      · cases hu
    · rintro w' hb ad ⟨⟩ j u hu
      have hj := (List.getElem?_eq_some_iff.1 hu).1
      rw [fvs_len, List.length_drop] at hj
      rw [if_neg (by omega)]
      have : (⟨g, k * 3, none⟩ : Addr).add j = ⟨g, k * 3 + j, none⟩ := by cases j <;> simp [Addr.add]
      rw [this]
      rw [ht2, List.getElem?_drop] at hu
      exact hcell w' hb _ u hu

theorem low_take {M : List Fl} {a : Bs} {k : Nat} (hk : k ≤ M.length) (h1 : ∀ j (hj : j < M.length), j < k → M[j].nm < a) (h2 : ∀ h : k < M.length, ¬ M[k].nm < a) : low Fl.nm M a = M.take k ∧ high Fl.nm M a = M.drop k := by
  induction M generalizing k with
  | nil => simp [low, high]
  | cons x r ih =>
    cases k with
    | zero =>
      have := h2 (by simp)
      simp only [List.getElem_cons_zero] at this
      exact ⟨by rw [low, List.takeWhile_cons_of_neg (by simpa using this)]; rfl, by rw [high, List.dropWhile_cons_of_neg (by simpa using this)]; rfl⟩
    | succ k =>
      have hx := h1 0 (by simp) (by omega)
      simp only [List.getElem_cons_zero] at hx
      obtain ⟨e1, e2⟩ := ih (k := k) (by simpa using hk) (fun j hj hjk => by have := h1 (j + 1) (by simpa using hj) (by omega); simpa using this) (fun h => by have := h2 (by simpa using h); simpa using this)
      exact ⟨by rw [low, List.takeWhile_cons_of_pos (by simpa using hx)]; rw [low] at e1; rw [e1]; rfl, by rw [high, List.dropWhile_cons_of_pos (by simpa using hx)]; rw [high] at e2; rw [e2]; rfl⟩
theorem less_b (a b : Bs) : Op.bytesLess a b = decide (a < b) := bytesLess_eq a b

/-- what is put: a row of its own -/
def WithPost (w : World) (L : List Fl) (e : Ending) (w' : World) : Prop := ∃ v, e = .returned v ∧ WoAt w w' L v

set_option maxRecDepth 100000 in
set_option maxHeartbeats 8000000 in
theorem with_calls (L : List Fl) (p : Option Addr) (c n : Nat) (hn : L.length = n) (hN : n ≤ 1000000) (f : Fl) (w : World) (h : Fs w p c L) :
    Calls Tryz.prog 43 #[.slice p n c, .agg #[str f.nm, str f.bs, .int .i64 (f.sure : Int)]] w (WithPost w (fpt L f)) := by
  obtain ⟨i0, hi, hz0, hz1, hz2⟩ := info_parts info_file
  obtain ⟨x, hx⟩ : ∃ s : ByteArray, s = ⟨(f.nm).toArray⟩ := ⟨_, rfl⟩
  obtain ⟨y, hy⟩ : ∃ s : ByteArray, s = ⟨(f.bs).toArray⟩ := ⟨_, rfl⟩
  obtain ⟨S, hS⟩ : ∃ s : Int, s = (f.sure : Int) := ⟨_, rfl⟩
  have hfv : fvs [f] = [.string x, .string y, .int .i64 S] := by rw [hx, hy, hS]; rfl
  rw [str, str, ← hx, ← hy, ← hS]
  have hxn : x.data.toList = f.nm := by rw [hx]
  have hb0 : Below w.heap.size w (w.alloc (.cells #[.string x, .string y, .int .i64 S] 79 (0, 0))) := (Below.refl _ _).alloc (Nat.le_refl _) _
  have hW := Lib.hid (without_calls L p c n hn hN x _ (h.below hb0))
  have hlen : (fwo L x.data.toList).length ≤ 1000000 := Nat.le_trans (wo_len _ _) (by omega)
  rw [hxn] at hW hlen
  have HX := Lib.hid (And.intro hxn hfv)
  have hB0 := Lib.hid hb0
  have N1 := Lib.hid (at_new w (.cells #[.string x, .string y, .int .i64 S] 79 (0, 0)))
  clear hx hy hS hfv hxn hb0 h hn
  go_enter Tryz.func43, Tryz.ntmps43
  go_wp2_with fail
  refine hW.out.mono ?_
  rintro e wo ⟨v0, rfl, hown0, hb1⟩
  obtain ⟨M, hM⟩ : ∃ M, fwo L f.nm = M := ⟨_, rfl⟩
  rw [hM] at hown0 hlen
  have HM := Lib.hid hM
  obtain ⟨hnn, p0, c0, rfl, hF, hB⟩ := fs_own hown0
  have hshape : (∀ b o, p0 = some ⟨b, o, none⟩ → o = 0) ∧ ∀ a, p0 = some a → ∃ b o, a = ⟨b, o, none⟩ := by
    rcases hown0.2 with ⟨e, _⟩ | ⟨g, cap, cur, e, _⟩
    · obtain ⟨rfl, -, -⟩ := Value.slice.inj e; exact ⟨fun b o h => (by cases h), fun a h => (by cases h)⟩
    · obtain ⟨rfl, -, -⟩ := Value.slice.inj e; exact ⟨fun b o h => (by cases h; rfl), fun a h => (by cases h; exact ⟨_, _, rfl⟩)⟩
  obtain ⟨n1, hn1⟩ : ∃ n1, M.length = n1 := ⟨_, rfl⟩
  rw [hn1] at hlen ⊢
  have hbw : Hid (Below w.heap.size w wo) := Lib.hid (hB0.out.trans (hb1.mono (by simp)))
  have hmm := hF.max
  have hcc := hF.cap
  rw [hn1] at hcc
  have HF := Lib.hid hF
  have HL := Lib.hid hn1
  have HSH := Lib.hid hshape
  have b0 := (at_cell ((hb1.block _ (at_lt N1.out)).trans N1.out) 0 : _ = some _)
  have b1 := (at_cell ((hb1.block _ (at_lt N1.out)).trans N1.out) 1 : _ = some _)
  have b2 := (at_cell ((hb1.block _ (at_lt N1.out)).trans N1.out) 2 : _ = some _)
  have hbl : w.heap.size < wo.heap.size := Nat.lt_of_lt_of_le (at_lt N1.out) hb1.size
  clear hM hF hown0 hnn hB hshape hn1 hb1
  go_wp2_with fail
  go_loopw [5] (fun u wx => ∃ k m : Nat, k ≤ n1 ∧ u = .int .i64 k ∧ wx = wo.drewN m ∧ Hid (∀ j (hj : j < M.length), j < k → M[j].nm < f.nm)) (fun u _ => n1 - (intOf u).toNat)
  case atStart => exact ⟨0, 0, by omega, rfl, rfl, Lib.hid fun j hj h => absurd h (by omega)⟩
  case round =>
    obtain ⟨k, m, hk, rfl, rfl, HLow⟩ := hrel
    by_cases hkn : k < n1
    · have hkM : k < M.length := by rw [HL.out]; exact hkn
      obtain ⟨b, o, rfl, hbl2, d0, -, -⟩ := HF.out.at_ hkM
      obtain ⟨z, hz⟩ : ∃ s : ByteArray, s = ⟨(M[k].nm).toArray⟩ := ⟨_, rfl⟩
      rw [str, ← hz] at d0
      have hzn : Hid (z.data.toList = M[k].nm) := Lib.hid (by rw [hz])
      have q1 : (k : Int) < (n1 : Int) := by omega
      have q2 : decide ((k : Int) < (n1 : Int)) = true := decide_eq_true q1
      have q3 : (n1 : Int) ≤ 9223372036854775807 := by unfold maxLen at hmm; omega
      have hl := less_b z.toList x.toList
      clear hz
      by_cases hyx : M[k].nm < f.nm
      · have hzx : z.toList < x.toList := by rw [ByteArray.toList_eq, ByteArray.toList_eq, hzn.out, HX.out.1]; exact hyx
        rw [decide_eq_true hzx] at hl
        replace hyx := Lib.hid hyx
        replace hzx := Lib.hid hzx
        go_wp2_with fail
        go_quiet (fail)
        go_wp2_with fail
        go_roundw
        case rel =>
          refine ⟨k + 1, _, by omega, by go_num, rfl, Lib.hid fun j hj hjk => ?_⟩
          by_cases hjk' : j < k
          · exact HLow.out j hj hjk'
          · obtain rfl : j = k := by omega
            exact hyx.out
        case measure => simp [intOf]; omega
      · have hzx : ¬ z.toList < x.toList := by rw [ByteArray.toList_eq, ByteArray.toList_eq, hzn.out, HX.out.1]; exact hyx
        rw [decide_eq_false hzx] at hl
        replace hyx := Lib.hid hyx
        replace hzx := Lib.hid hzx
        go_wp2_with fail
        go_quiet (fail)
        have HHI : ∀ h : k < M.length, ¬ M[k].nm < f.nm := fun _ => hyx.out
        obtain ⟨e1, e2⟩ := low_take (M := M) (a := f.nm) (k := k) (by rw [HL.out]; omega) HLow.out HHI
        obtain ⟨r, hr⟩ : ∃ r, n1 = k + r := ⟨n1 - k, by omega⟩
        obtain ⟨p1, c1, p2, c2, HV⟩ := halves HF.out HSH.out.1 HSH.out.2 HL.out hr
        have hs1 := HV.s1
        have hs2 := HV.s2
        have HQ1 := Lib.hid HV.q1
        have HQ2 := Lib.hid HV.q2
        have HC1 := Lib.hid HV.h1
        have HC2 := Lib.hid HV.h2
        have HE := Lib.hid (show pt Fl.nm L f = M.take k ++ [f] ++ M.drop k by
          unfold pt
          have e0 : Sto.wo Fl.nm L f.nm = M := HM.out
          rw [e0, e1, e2]; simp)
        have hr2 : k + r ≤ n1 := Nat.le_of_eq hr.symm
        have hr3 : n1 ≤ k + r := Nat.le_of_eq hr
        have hl1 : M.length ≤ n1 := Nat.le_of_eq HL.out
        have hl2 : n1 ≤ M.length := Nat.le_of_eq HL.out.symm
        replace hr := Lib.hid hr
        clear HV e1 e2
        go_wp2_with (first
          | (at_builtin; refine Own.append_any rfl (.tmp 27) (.tmp 30) 25 rfl wo.heap.size 79 i0 _ 3 40 Tryz.underlying25 hi hz0 hz1 hz2 rfl (by decide) _ _ _ rfl (World.ownsRow_nil _ _ _ _) p1 k c1 (fvs (M.take k)) rfl HQ1.out (by rw [fvs_len, List.length_take]; omega) (HC1.out _ (by first | exact Below.refl _ _ | exact below_drew (Below.refl _ _) | exact below_drew (below_drew (Below.refl _ _)) | exact below_drew (below_drew (below_drew (Below.refl _ _))))) (fvs_one _) (by unfold maxLen; omega) (by omega) (by first | exact Nat.le_refl _ | (simp; omega)) ?_; intro v1 w1 hown1 hgrow1
             have hb1 : Below wo.heap.size wo w1 := below_nil (by first | exact below_drew (Below.refl _ _) | exact below_drew (below_drew (Below.refl _ _)) | exact below_drew (below_drew (below_drew (Below.refl _ _)))) (v := .slice none 0 0) hgrow1 rfl
             have ho1 : w1.ownsRow wo.heap.size 79 3 v1 k (fvs (M.take k)) := by simpa using hown1
             have g0 := (hb1.cell (p := ⟨w.heap.size, 0, none⟩) hbl).trans b0
             have g1 := (hb1.cell (p := ⟨w.heap.size, 1, none⟩) hbl).trans b1
             have g2 := (hb1.cell (p := ⟨w.heap.size, 2, none⟩) hbl).trans b2
             have hsw1 := hb1.size
             have HB1 := Lib.hid hb1
             clear hown1 hgrow1 hb1)
          | (at_builtin; refine Own.append_any rfl (.tmp 32) (.tmp 34) 25 rfl wo.heap.size 79 i0 _ 3 40 Tryz.underlying25 hi hz0 hz1 hz2 rfl (by decide) _ _ _ rfl (World.ownsRow.alloc ho1 _) _ 1 1 [.string x, .string y, .int .i64 S] rfl (fun h => nomatch h) rfl (three_new _ _ _ _ _ _ rfl) (by rw [← HX.out.2]; exact fvs_one _) (by unfold maxLen; omega) (by omega) (by simp; omega) ?_; intro v1 w1 hown1 hgrow1
             have hb2 := grown_row ho1 (HB1.out.alloc hsw1 _) hgrow1
             have ho2 := hown1
             have hsw2 := hb2.size
             have HB2 := Lib.hid hb2
             clear hown1 hgrow1 hb2)
          | (at_builtin; refine Own.append_any rfl (.tmp 36) (.tmp 39) 25 rfl wo.heap.size 79 i0 _ 3 40 Tryz.underlying25 hi hz0 hz1 hz2 rfl (by decide) _ _ _ rfl ho2 p2 r c2 (fvs (M.drop k)) rfl HQ2.out (by rw [fvs_len, List.length_drop]; omega) (HC2.out _ HB2.out) (fvs_one _) (by unfold maxLen; omega) (by omega) hsw2 ?_; intro v1 w1 hown1 hgrow1
             have hb3 := grown_row ho2 HB2.out hgrow1
             have HB3 := Lib.hid hb3
             have HO3 := Lib.hid hown1
             clear hown1 hgrow1 hb3))
        go_ret
        refine ⟨_, rfl, ?_, hbw.out.trans (HB3.out.mono hbw.out.size)⟩
        have e3 := HE.out
        unfold fpt
        rw [e3]
        have e4 : (M.take k ++ [f] ++ M.drop k).length = k + 1 + r := by simp; omega
        rw [e4, fvs_app, fvs_app, HX.out.2]
        exact Rw.own_base HO3.out hbw.out.size
    · have q1 : ¬ (k : Int) < (n1 : Int) := by omega
      have q2 : decide ((k : Int) < (n1 : Int)) = false := decide_eq_false q1
      go_wp2_with fail
      go_quiet (fail)
      have HHI : ∀ h : k < M.length, ¬ M[k].nm < f.nm := fun h => absurd h (by have := HL.out; omega)
      obtain ⟨e1, e2⟩ := low_take (M := M) (a := f.nm) (k := k) (by rw [HL.out]; omega) HLow.out HHI
      obtain ⟨r, hr⟩ : ∃ r, n1 = k + r := ⟨n1 - k, by omega⟩
      obtain ⟨p1, c1, p2, c2, HV⟩ := halves HF.out HSH.out.1 HSH.out.2 HL.out hr
      have hs1 := HV.s1
      have hs2 := HV.s2
      have HQ1 := Lib.hid HV.q1
      have HQ2 := Lib.hid HV.q2
      have HC1 := Lib.hid HV.h1
      have HC2 := Lib.hid HV.h2
      have HE := Lib.hid (show pt Fl.nm L f = M.take k ++ [f] ++ M.drop k by
        unfold pt
        have e0 : Sto.wo Fl.nm L f.nm = M := HM.out
        rw [e0, e1, e2]; simp)
      have hr2 : k + r ≤ n1 := Nat.le_of_eq hr.symm
      have hr3 : n1 ≤ k + r := Nat.le_of_eq hr
      have hl1 : M.length ≤ n1 := Nat.le_of_eq HL.out
      have hl2 : n1 ≤ M.length := Nat.le_of_eq HL.out.symm
      replace hr := Lib.hid hr
      clear HV e1 e2
      go_wp2_with (first
        | (at_builtin; refine Own.append_any rfl (.tmp 27) (.tmp 30) 25 rfl wo.heap.size 79 i0 _ 3 40 Tryz.underlying25 hi hz0 hz1 hz2 rfl (by decide) _ _ _ rfl (World.ownsRow_nil _ _ _ _) p1 k c1 (fvs (M.take k)) rfl HQ1.out (by rw [fvs_len, List.length_take]; omega) (HC1.out _ (by first | exact Below.refl _ _ | exact below_drew (Below.refl _ _) | exact below_drew (below_drew (Below.refl _ _)) | exact below_drew (below_drew (below_drew (Below.refl _ _))))) (fvs_one _) (by unfold maxLen; omega) (by omega) (by first | exact Nat.le_refl _ | (simp; omega)) ?_; intro v1 w1 hown1 hgrow1
           have hb1 : Below wo.heap.size wo w1 := below_nil (by first | exact below_drew (Below.refl _ _) | exact below_drew (below_drew (Below.refl _ _)) | exact below_drew (below_drew (below_drew (Below.refl _ _)))) (v := .slice none 0 0) hgrow1 rfl
           have ho1 : w1.ownsRow wo.heap.size 79 3 v1 k (fvs (M.take k)) := by simpa using hown1
           have g0 := (hb1.cell (p := ⟨w.heap.size, 0, none⟩) hbl).trans b0
           have g1 := (hb1.cell (p := ⟨w.heap.size, 1, none⟩) hbl).trans b1
           have g2 := (hb1.cell (p := ⟨w.heap.size, 2, none⟩) hbl).trans b2
           have hsw1 := hb1.size
           have HB1 := Lib.hid hb1
           clear hown1 hgrow1 hb1)
        | (at_builtin; refine Own.append_any rfl (.tmp 32) (.tmp 34) 25 rfl wo.heap.size 79 i0 _ 3 40 Tryz.underlying25 hi hz0 hz1 hz2 rfl (by decide) _ _ _ rfl (World.ownsRow.alloc ho1 _) _ 1 1 [.string x, .string y, .int .i64 S] rfl (fun h => nomatch h) rfl (three_new _ _ _ _ _ _ rfl) (by rw [← HX.out.2]; exact fvs_one _) (by unfold maxLen; omega) (by omega) (by simp; omega) ?_; intro v1 w1 hown1 hgrow1
           have hb2 := grown_row ho1 (HB1.out.alloc hsw1 _) hgrow1
           have ho2 := hown1
           have hsw2 := hb2.size
           have HB2 := Lib.hid hb2
           clear hown1 hgrow1 hb2)
        | (at_builtin; refine Own.append_any rfl (.tmp 36) (.tmp 39) 25 rfl wo.heap.size 79 i0 _ 3 40 Tryz.underlying25 hi hz0 hz1 hz2 rfl (by decide) _ _ _ rfl ho2 p2 r c2 (fvs (M.drop k)) rfl HQ2.out (by rw [fvs_len, List.length_drop]; omega) (HC2.out _ HB2.out) (fvs_one _) (by unfold maxLen; omega) (by omega) hsw2 ?_; intro v1 w1 hown1 hgrow1
           have hb3 := grown_row ho2 HB2.out hgrow1
           have HB3 := Lib.hid hb3
           have HO3 := Lib.hid hown1
           clear hown1 hgrow1 hb3))
      go_ret
      refine ⟨_, rfl, ?_, hbw.out.trans (HB3.out.mono hbw.out.size)⟩
      have e3 := HE.out
      unfold fpt
      rw [e3]
      have e4 : (M.take k ++ [f] ++ M.drop k).length = k + 1 + r := by simp; omega
      rw [e4, fvs_app, fvs_app, HX.out.2]
      exact Rw.own_base HO3.out hbw.out.size
end Go.Proofs.YtngangdjbbbbdaaGreatDoor.Sto
end

section
namespace Go.Proofs.YtngangdjbbbbdaaGreatDoor.Sto
open Go.RowKit Go.Proofs.YtngangdjbbbbdaaGreatDoor.Own
open Go.Proofs.YtngangdjbbbbdaaGreatDoor.Rw (str strs Row1 below_drew)

/-- what a call of the document's leaves -/
def RPost (w : World) (p : Option Addr) (r' : St) (code : Int) (e : Ending) (w' : World) : Prop :=
  ∃ p' c', e = .returned (.tuple #[rv p' r'.L.length c' r'.most r'.bad, .int .i64 code]) ∧ Fs w' p' c' r'.L ∧ Below w.heap.size w w' ∧ (p' = p ∨ ∀ b o, p' = some ⟨b, o, none⟩ → w.heap.size ≤ b ∧ b < w'.heap.size)
theorem RPost.same {w w' : World} {p : Option Addr} {c n : Nat} {r : St} {most bad code : Int} {e : Ending} (hF : Fs w p c r.L) (hn : r.L.length = n) (hm : r.most = most) (hd : r.bad = bad) (he : e = .returned (.tuple #[rv p n c most bad, .int .i64 code])) (hb : Below w.heap.size w w') : RPost w p r code e w' := by
  subst hn hm hd
  exact ⟨p, c, he, hF.below hb, hb, .inl rfl⟩
theorem RPost.new {w W w2 w' : World} {p p' : Option Addr} {c' n : Nat} {r' : St} {most bad : Int} {e : Ending} (hW : WoAt W w2 r'.L (.slice p' n c')) (hbW : Below w.heap.size w W) (hm : r'.most = most) (hd : r'.bad = bad) (he : e = .returned (.tuple #[rv p' n c' most bad, .int .i64 0]))
    (hb : Below w2.heap.size w2 w' ∨ (Below w.heap.size w w' ∧ ∀ k, W.heap.size ≤ k → k < w2.heap.size → w'.heap[k]? = w2.heap[k]?)) : RPost w p r' 0 e w' := by
  subst hm hd
  obtain ⟨-, p2, c2, e2, hF, hB⟩ := fs_own hW.own
  cases e2
  have hsz := hbW.size
  have h2 := hbW.trans (hW.below.mono hsz)
  have hlt : ∀ b o, p' = some ⟨b, o, none⟩ → b < w'.heap.size := fun b o h => by
    have hb2 := World.ownsRow.lt hW.own b (by rw [h]; rfl)
    rcases hb with hb | ⟨_, hk⟩
    · exact Nat.lt_of_lt_of_le hb2.2 hb.size
    · have hs := hk b hb2.1 hb2.2
      have h3 := Array.getElem?_eq_getElem hb2.2
      rw [← hs] at h3
      exact (Array.getElem?_eq_some_iff.1 h3).1
  refine ⟨p', c', he, ?_, ?_, .inr fun b o h => ⟨Nat.le_trans hsz (hB b o h), hlt b o h⟩⟩
  · rcases hb with hb | ⟨hb, hk⟩
    · exact hF.below hb
    · refine ⟨hF.cap, hF.max, hF.nil, hF.cells.imp id fun ⟨b, o, e, hl, k⟩ => ?_⟩
      have hs := hk b (hB b o e) hl
      refine ⟨b, o, e, ?_, fun j u hu => (World.cell?_of_block (a := ⟨b, o + j, none⟩) hs).trans (k j u hu)⟩
      have h3 := Array.getElem?_eq_getElem hl
      rw [← hs] at h3
      exact (Array.getElem?_eq_some_iff.1 h3).1
  · rcases hb with hb | ⟨hb, _⟩
    · exact h2.trans (hb.mono h2.size)
    · exact hb
/-- the boxes of such a call, behind what is told ahead -/
structure RefA (w w1 : World) (s m b : Value) : Prop where
  box : w1.heap[w.heap.size]? = some (.cells #[s, m, b] 27 (0, 0))
  res : w1.heap[w.heap.size + 1]? = some (.cells #[.slice none 0 0, .int .i64 0, .int .i64 0] 27 (0, 0))
  below : Below w.heap.size w w1
theorem RefA.lt {w w1 : World} {s m b : Value} (h : RefA w w1 s m b) : w.heap.size + 1 < w1.heap.size := at_lt h.res
theorem RefA.start (w : World) (s m b : Value) : RefA w ((w.alloc (.cells #[s, m, b] 27 (0, 0))).alloc (.cells #[.slice none 0 0, .int .i64 0, .int .i64 0] 27 (0, 0))) s m b :=
  ⟨at_old _ _ (at_new _ _), at_newk _ _ (by simp), ((Below.refl _ _).alloc (Nat.le_refl _) _).alloc (by simp) _⟩
theorem RefA.step {w w1 w2 : World} {s m b : Value} (h : RefA w w1 s m b) (hb : Below w1.heap.size w1 w2) : RefA w w2 s m b :=
  ⟨(hb.block _ (at_lt h.box)).trans h.box, (hb.block _ (at_lt h.res)).trans h.res, h.below.trans (hb.mono h.below.size)⟩
theorem RefA.set {w w1 : World} {s m b : Value} (h : RefA w w1 s m b) (s' m' b' : Value) : RefA w (((w1.setCell ⟨w.heap.size, 0, none⟩ s').setCell ⟨w.heap.size, 1, none⟩ m').setCell ⟨w.heap.size, 2, none⟩ b') s' m' b' := by
  refine ⟨?_, ?_, ((h.below.setCell (p := ⟨_, _, _⟩) (Nat.le_refl _) _).setCell (p := ⟨_, _, _⟩) (Nat.le_refl _) _).setCell (p := ⟨_, _, _⟩) (Nat.le_refl _) _⟩
  · have e1 := at_set h.box 0 s'
    have e2 := at_set e1 1 m'
    have e3 := at_set e2 2 b'
    simpa using e3
  · rw [at_set_other _ (by omega), at_set_other _ (by omega), at_set_other _ (by omega)]; exact h.res
end Go.Proofs.YtngangdjbbbbdaaGreatDoor.Sto
end

section
namespace Go.Proofs.YtngangdjbbbbdaaGreatDoor.Sto
open Go.RowKit Go.Proofs.YtngangdjbbbbdaaGreatDoor.Own
open Go.Proofs.YtngangdjbbbbdaaGreatDoor.Rw (str strs Row1 below_drew)

theorem get_open {w w' : World} {L : List Fl} {a : Bs} {e : Ending} (h : GetPost w L a e w') : ∃ nmx y S, e = .returned (.tuple #[.agg #[.string nmx, .string y, .int .i64 (S : Nat)], .bool (flk L a).isSome]) ∧ y.data.toList = (got L a).bs ∧ S = (got L a).sure ∧ Below w.heap.size w w' := by
  obtain ⟨nmv, he, hb⟩ := h
  exact ⟨⟨nmv.toArray⟩, ⟨(got L a).bs.toArray⟩, _, he, rfl, rfl, hb⟩
theorem RefA.repack {w W w5 : World} {s m b : Value} (h : RefA w W s m b) (hb : Below W.heap.size W.drew w5) : RefA w w5 s m b := h.step ⟨hb.os, hb.tape, hb.output, hb.size, hb.block⟩

set_option maxRecDepth 100000 in
set_option maxHeartbeats 4000000 in
theorem rsyn_calls (r : St) (p : Option Addr) (c n : Nat) (hn : r.L.length = n) (a : ByteArray) (hz : a.size ≤ 1000000) (hd : r.bad ≤ 9223372036854775807) (w : World) (h : Fs w p c r.L) (hr : Rise Fl.nm r.L) (hN : n ≤ 1000000) (ht : tot r.L ≤ 16777216) :
    Calls Tryz.prog 20 #[rv p n c r.most r.bad, .string a] w (RPost w p (synT r a.data.toList) (synC r a.data.toList)) := by
  obtain ⟨most, hmost⟩ : ∃ x, r.most = x := ⟨_, rfl⟩
  obtain ⟨bad, hbad⟩ : ∃ x, r.bad = x := ⟨_, rfl⟩
  have hBeg := fun W => rbegin_calls r p c n a hz hd W
  simp only [hmost, hbad] at hBeg
  replace hBeg := Lib.hid hBeg
  have HM := Lib.hid (And.intro hmost hbad)
  rw [hmost, hbad]
  have H := Lib.hid h
  have HN := Lib.hid hn
  have A0 := Lib.hid (RefA.start w (.slice p n c) (.int .i64 most) (.int .i64 bad))
  have hR := Lib.hid hr
  have hGet := Lib.hid (fun (W : World) hb => get_calls r.L p c n hn most bad a W (h.below hb) hr)
  have hWi := Lib.hid (fun (W : World) hb (z : ByteArray) (S : Nat) => with_calls r.L p c n hn hN ⟨a.data.toList, z.data.toList, S⟩ W (h.below hb))
  have HTT := Lib.hid ht
  clear h hn hmost hbad hr ht
  go_enter Tryz.func20, Tryz.ntmps20
  go_wp2_with fail
  refine (hBeg.out _).mono ?_
  rintro e w1 ⟨rfl, hb1⟩
  have A0' := Lib.hid (A0.out.step hb1)
  by_cases h0 : begC r a.data.toList = 0
  rotate_left
  · have HT : Hid (synT r a.data.toList = begT r a.data.toList ∧ synC r a.data.toList = begC r a.data.toList) := Lib.hid ⟨if_neg h0, if_neg h0⟩
    obtain ⟨code, hcode⟩ : ∃ x, begC r a.data.toList = x := ⟨_, rfl⟩
    obtain ⟨b1, hb1⟩ : ∃ x, (begT r a.data.toList).bad = x := ⟨_, rfl⟩
    have hbm : (begT r a.data.toList).most = most ∧ (begT r a.data.toList).L = r.L := by rw [← HM.out.1]; unfold begT; split <;> exact ⟨rfl, rfl⟩
    rw [hcode, hb1]
    rw [hcode] at h0
    have hcb : (code != 0) = true := by simpa using h0
    have A1 := A0'
    have n0 := (at_cell A1.out.box 0 : _ = some _)
    have n1 := (at_cell A1.out.box 1 : _ = some _)
    have n2 := (at_cell A1.out.box 2 : _ = some _)
    have nf0 := at_frozen A1.out.box 0
    have nf1 := at_frozen A1.out.box 1
    have nf2 := at_frozen A1.out.box 2
    have m0 := (at_cell A1.out.res 0 : _ = some _)
    have m1 := (at_cell A1.out.res 1 : _ = some _)
    have m2 := (at_cell A1.out.res 2 : _ = some _)
    have mf0 := at_frozen A1.out.res 0
    have mf1 := at_frozen A1.out.res 1
    have mf2 := at_frozen A1.out.res 2
    have HC := Lib.hid (And.intro hbm (And.intro hb1 hcode))
    clear hb1 hbm hcode h0
    go_wp2_with fail
    refine bodyPost_ret (v := .tuple #[rv p n c most b1, .int .i64 code]) ?_ rfl ?_
    · simp [results, Tryz.results20, go_sem, *]
    · rw [HT.out.1, HT.out.2, HC.out.2.2]
      exact RPost.same (by rw [HC.out.1.2]; exact H.out) (by rw [HC.out.1.2]; exact HN.out) HC.out.1.1 HC.out.2.1 rfl (by repeat' (first | exact A1.out.below | refine Below.setCell ?_ ?_ _ | refine Below.alloc ?_ ?_ _ | refine below_drew ?_ | exact Nat.le_refl _ | exact Nat.le_succ _ | (simp; done) | (have := A1.out.lt; simp; omega)))
  have e0 : begT r a.data.toList = r := by
    have hb := beg_nm h0
    by_cases hp : 0 < r.bad
    · rw [(begC_io hb hp).1] at h0; cases h0
    · exact (begC_ok hb hp).2
  rw [h0, e0, HM.out.2]
  have A1 := A0'
  have n0 := (at_cell A1.out.box 0 : _ = some _)
  have n1 := (at_cell A1.out.box 1 : _ = some _)
  have n2 := (at_cell A1.out.box 2 : _ = some _)
  have nf0 := at_frozen A1.out.box 0
  have nf1 := at_frozen A1.out.box 1
  have nf2 := at_frozen A1.out.box 2
  have m0 := (at_cell A1.out.res 0 : _ = some _)
  have m1 := (at_cell A1.out.res 1 : _ = some _)
  have m2 := (at_cell A1.out.res 2 : _ = some _)
  have mf0 := at_frozen A1.out.res 0
  have mf1 := at_frozen A1.out.res 1
  have mf2 := at_frozen A1.out.res 2
  go_wp2_with fail
  replace A1 := Lib.hid (A1.out.set (.slice p n c) (.int .i64 most) (.int .i64 bad))
  generalize ((w1.setCell ⟨w.heap.size, 0, none⟩ (.slice p n c)).setCell ⟨w.heap.size, 1, none⟩ (.int .i64 most)).setCell ⟨w.heap.size, 2, none⟩ (.int .i64 bad) = W at A1 ⊢
  clear n0 n1 n2 nf0 nf1 nf2 m0 m1 m2 mf0 mf1 mf2
  refine (hGet.out _ A1.out.below).mono ?_
  intro e w2 hG
  obtain ⟨nmx, y, S, rfl, hy, hS, hb2⟩ := get_open hG
  replace A1 := Lib.hid ((A1.out.step hb2).step ((Below.refl _ w2).alloc (Nat.le_refl _) (.cells #[.string nmx, .string y, .int .i64 (S : Int)] 79 (0, 0))))
  clear hG hb2 A0'
  have hys : y.size ≤ 16777216 := by
    have e1 : y.size = (got r.L a.data.toList).bs.length := by rw [← hy]; rfl
    cases hl : flk r.L a.data.toList with
    | none => rw [e1, got_none hl]; simp
    | some x => rw [e1, got_some hl]; exact Nat.le_trans (len_tot (lk_some hl).1) HTT.out
  have HY := Lib.hid (And.intro hy hS)
  clear hy hS
  have n0 := (at_cell A1.out.box 0 : _ = some _)
  have n1 := (at_cell A1.out.box 1 : _ = some _)
  have n2 := (at_cell A1.out.box 2 : _ = some _)
  have nf0 := at_frozen A1.out.box 0
  have nf1 := at_frozen A1.out.box 1
  have nf2 := at_frozen A1.out.box 2
  have m0 := (at_cell A1.out.res 0 : _ = some _)
  have m1 := (at_cell A1.out.res 1 : _ = some _)
  have m2 := (at_cell A1.out.res 2 : _ = some _)
  have mf0 := at_frozen A1.out.res 0
  have mf1 := at_frozen A1.out.res 1
  have mf2 := at_frozen A1.out.res 2
  cases hl : flk r.L a.data.toList with
  | none =>
    have HT : Hid (synT r a.data.toList = r ∧ synC r a.data.toList = 7) := Lib.hid (by unfold synT synC; rw [if_pos h0, if_pos h0, hl]; exact ⟨rfl, rfl⟩)
    go_wp2_with fail
    refine bodyPost_ret (v := .tuple #[rv p n c most bad, .int .i64 7]) ?_ rfl ?_
    · simp [results, Tryz.results20, go_sem, *]
    · rw [HT.out.1, HT.out.2]
      exact RPost.same H.out HN.out HM.out.1 HM.out.2 rfl (by repeat' (first | exact A1.out.below | refine Below.setCell ?_ ?_ _ | refine Below.alloc ?_ ?_ _ | refine below_drew ?_ | exact Nat.le_refl _ | exact Nat.le_succ _ | (simp; done) | (have := A1.out.lt; simp; omega)))
  | some x =>
    have HT : Hid (synT r a.data.toList = ⟨fpt r.L ⟨a.data.toList, (got r.L a.data.toList).bs, (got r.L a.data.toList).bs.length⟩, r.most, r.bad⟩ ∧ synC r a.data.toList = 0) := Lib.hid (by unfold synT synC; rw [if_pos h0, if_pos h0, hl]; exact ⟨rfl, rfl⟩)
    clear hl
    go_wp2_with fail
    have hWi2 := hWi.out _ A1.out.below y y.size
    rw [show (⟨a.data.toList, y.data.toList, y.size⟩ : Fl) = ⟨a.data.toList, (got r.L a.data.toList).bs, (got r.L a.data.toList).bs.length⟩ by rw [← HY.out.1]; rfl] at hWi2
    refine hWi2.mono ?_
    clear n0 n1 n2 nf0 nf1 nf2 m0 m1 m2 mf0 mf1 mf2
    clear hWi2
    rintro e w3 ⟨v3, rfl, hW3⟩
    obtain ⟨-, p3, c3, e3, -⟩ := fs_own hW3.own
    obtain ⟨n3, hn3⟩ : ∃ n3, (fpt r.L ⟨a.data.toList, (got r.L a.data.toList).bs, (got r.L a.data.toList).bs.length⟩).length = n3 := ⟨_, rfl⟩
    rw [hn3] at e3
    subst e3
    have A2 := A1
    replace A1 := Lib.hid (A1.out.step hW3.below)
    have n0 := (at_cell A1.out.box 0 : _ = some _)
    have n1 := (at_cell A1.out.box 1 : _ = some _)
    have n2 := (at_cell A1.out.box 2 : _ = some _)
    have nf0 := at_frozen A1.out.box 0
    have nf1 := at_frozen A1.out.box 1
    have nf2 := at_frozen A1.out.box 2
    have m0 := (at_cell A1.out.res 0 : _ = some _)
    have m1 := (at_cell A1.out.res 1 : _ = some _)
    have m2 := (at_cell A1.out.res 2 : _ = some _)
    have mf0 := at_frozen A1.out.res 0
    have mf1 := at_frozen A1.out.res 1
    have mf2 := at_frozen A1.out.res 2
    have HW3 := Lib.hid hW3
    clear hW3 hn3
    go_wp2_with fail
    refine bodyPost_ret (v := .tuple #[rv p3 n3 c3 most bad, .int .i64 0]) ?_ rfl ?_
    · simp [results, Tryz.results20, go_sem, *]
    · rw [HT.out.1, HT.out.2]
      refine RPost.new (r' := ⟨fpt r.L ⟨a.data.toList, (got r.L a.data.toList).bs, (got r.L a.data.toList).bs.length⟩, r.most, r.bad⟩) HW3.out A2.out.below HM.out.1 HM.out.2 rfl (.inr ⟨(by repeat' (first | exact A1.out.below | refine Below.setCell ?_ ?_ _ | refine Below.alloc ?_ ?_ _ | refine below_drew ?_ | exact Nat.le_refl _ | exact Nat.le_succ _ | (simp; done) | (have := A1.out.lt; simp; omega))), fun k h1 h2 => ?_⟩)
      have := A2.out.lt
      rw [at_set_other _ (by omega), at_set_other _ (by omega), at_set_other _ (by omega), at_set_other _ (by omega)]
end Go.Proofs.YtngangdjbbbbdaaGreatDoor.Sto
end

section
namespace Go.Proofs.YtngangdjbbbbdaaGreatDoor.Gen
open Go.RowKit Go.Proofs.YtngangdjbbbbdaaGreatDoor.Own Go.Proofs.YtngangdjbbbbdaaGreatDoor.Sto
open Go.Proofs.YtngangdjbbbbdaaGreatDoor.Rw (str strs Row1 Texts texts_own below_drew)

theorem rheld_calls (n : Int) (w : World) : Calls Tryz.prog 8 #[.int .i64 n] w fun e w' => e = .returned (.int .i64 (held n : Nat)) ∧ w = w' := by
  have HR : Hid (∀ x : Int, x = (if 1 < (if 16 < n then 16 else n) then (if 16 < n then 16 else n) else 1) → x = ((held n : Nat) : Int)) := Lib.hid fun x hx => by
    rw [hx]; unfold held
    (repeat' split) <;> omega
  have HM : Hid (∀ x : Int, x = max 1 (min n 16) → x = ((held n : Nat) : Int)) := Lib.hid fun x hx => by
    rw [hx]; unfold held; omega
  go_enter Tryz.func8, Tryz.ntmps8
  go_wp2_with fail
  go_ret
  exact ⟨by first | exact congrArg (fun x => Ending.returned (.int .i64 x)) (HR.out _ rfl) | exact congrArg (fun x => Ending.returned (.int .i64 x)) (HM.out _ rfl), rfl⟩

theorem file_box {W : World} {g : Nat} {x0 y0 z0 a b c : Value} {T : TypeId} (h : W.heap[g]? = some (.cells #[x0, y0, z0] T (0, 0))) : (((W.setCell ⟨g, 0, none⟩ a).setCell ⟨g, 1, none⟩ b).setCell ⟨g, 2, none⟩ c).heap[g]? = some (.cells #[a, b, c] T (0, 0)) := by
  have e1 := at_set h 0 a
  have e2 := at_set e1 1 b
  have e3 := at_set e2 2 c
  simpa using e3
theorem row_type {w : World} {B size n b : Nat} {e T : TypeId} {v : Value} {xs : List Value} {C : Array Value} {fr : Nat × Nat} (h : w.ownsRow B e size v n xs) (hb : w.heap[b]? = some (.cells C T fr)) (hT : e ≠ T) : v.ownBlock ≠ some b := by
  intro hk
  rcases h.2 with ⟨rfl, _⟩ | ⟨g, cap, cur, rfl, _, hh, _⟩
  · cases hk
  · obtain rfl : g = b := by simpa [Value.ownBlock] using hk
    rw [hb] at hh
    simp at hh
    exact hT hh.2.1.symm
structure AlAt (w wr : World) (v : Value) (D : List Bs) : Prop where
  own : wr.ownsRow w.heap.size 9 1 v D.length (strs D)
  below : Below w.heap.size w wr
theorem AlAt.same {w wr w' : World} {v : Value} {D : List Bs} (h : AlAt w wr v D) (hb : Below wr.heap.size wr w') : AlAt w w' v D := ⟨own_below h.own hb, h.below.trans (hb.mono h.below.size)⟩
theorem AlAt.step {w wr w1 : World} {v v' : Value} {D : List Bs} {y : Bs} (h : AlAt w wr v D) (o : Obj) (ho : w1.ownsRow w.heap.size 9 1 v' (D.length + 1) (strs D ++ [.string ⟨y.toArray⟩])) (hg : (wr.alloc o).grownBy w1 v.ownBlock) : AlAt w w1 v' (D ++ [y]) := by
  have hs := h.below.size
  refine ⟨?_, (h.below.alloc hs o).grown hg (by simp; omega) (fun k hk => (World.ownsRow.lt h.own k hk).1)⟩
  rw [List.length_append, show strs (D ++ [y]) = strs D ++ [.string ⟨y.toArray⟩] by simp [strs, str]]; exact ho
theorem info_text : (Tryz.prog.info? 9).map (fun i => (i.zero, i.size, i.bytes)) = some (some (.string ⟨#[]⟩), 1, 16) := by kernel_rfl
def AlPost (L : List Bs) (w : World) (e : Ending) (w' : World) : Prop := ∃ p c n, e = .returned (.slice p n c) ∧ n = L.length ∧ Texts w' p c L ∧ Below w.heap.size w w'
set_option maxRecDepth 100000 in
set_option maxHeartbeats 8000000 in
theorem rall_calls (t : St) (p : Option Addr) (c n : Nat) (hn : t.L.length = n) (most bad : Int) (a : Bs) (ha : a.length ≤ 1000) (k : Int) (w : World) (h : Fs w p c t.L) (hr : Rise Fl.nm t.L) :
    Calls Tryz.prog 13 #[.agg #[.slice p n c, .int .i64 most, .int .i64 bad], .string ⟨a.toArray⟩, .int .i64 k] w (AlPost ((fnd t (ser a (held k))).map Fl.bs) w) := by
  obtain ⟨i0, hi, hz0, hz1, hz2⟩ := info_parts info_text
  have HF := Lib.hid h
  have HN := Lib.hid hn
  have HR := Lib.hid hr
  have hk := held_bd k
  have HH := Lib.hid fun W => rheld_calls k W
  generalize held k = K at *
  obtain ⟨hK1, hK2⟩ := hk
  have HB0 := Lib.hid ((Below.refl w.heap.size w).alloc (Nat.le_refl _) (.cells #[.slice p n c, .int .i64 most, .int .i64 bad] 27 (0, 0)))
  have HX0 := Lib.hid (at_new w (.cells #[.slice p n c, .int .i64 most, .int .i64 bad] 27 (0, 0)))
  clear h hn hr
  go_enter Tryz.func13, Tryz.ntmps13
  go_wp2_with fail
  refine (HH.out _).mono ?_
  rintro e w' ⟨rfl, rfl⟩
  go_wp2_with fail
  generalize w.alloc (.cells #[.slice p n c, .int .i64 most, .int .i64 bad] 27 (0, 0)) = W0 at *
  go_loopw [7, 8] (fun ov iv wr => ∃ (m : Nat) (D : List Bs), m ≤ K ∧ iv = .int .i64 ((m : Int) - 1) ∧ D.length + m ≤ K ∧ Hid (D ++ (fnd t (ser a m)).map Fl.bs = (fnd t (ser a K)).map Fl.bs) ∧ Hid (wr.heap[w.heap.size]? = some (.cells #[.slice p n c, .int .i64 most, .int .i64 bad] 27 (0, 0))) ∧ AlAt w wr ov D) (fun _ iv _ => (intOf iv + 1).toNat)
  case atStart => exact ⟨K, [], Nat.le_refl _, rfl, by simp, Lib.hid rfl, HX0, World.ownsRow_nil _ _ _ _, HB0.out⟩
  case round =>
    obtain ⟨m, D, hm, rfl, hD, HE, HB, C⟩ := hrel
    rename World => wr
    have HC := Lib.hid C
    clear C
    rcases Nat.eq_zero_or_pos m with rfl | hm0
    · have q1 : ¬ (0 : Int) ≤ ((0 : Nat) : Int) - 1 := by omega
      have HE2 := Lib.hid (show D = (fnd t (ser a K)).map Fl.bs by have := HE.out; rw [show ser a 0 = [] from rfl, show fnd t [] = [] from rfl, List.map_nil, List.append_nil] at this; exact this)
      go_wp2_with fail
      go_ret
      obtain ⟨pp, cc, rfl, hT⟩ := texts_own HC.out.own rfl
      exact ⟨pp, cc, _, rfl, by rw [← HE2.out], by rw [← HE2.out]; exact hT, HC.out.below⟩
    · obtain ⟨j, rfl⟩ : ∃ j, m = j + 1 := ⟨m - 1, by omega⟩
      rw [show ((j + 1 : Nat) : Int) - 1 = (j : Int) by omega]
      have q1 : (0 : Int) ≤ (j : Int) := by omega
      have hx := HB.out
      have hlt0 := at_lt hx
      have a0 := at_cell (at_old wr (.cells #[.string ⟨#[]⟩, .string ⟨#[]⟩, .int .i64 0] 79 (0, 0)) hx) 0
      have a1 := at_cell (at_old wr (.cells #[.string ⟨#[]⟩, .string ⟨#[]⟩, .int .i64 0] 79 (0, 0)) hx) 1
      have a2 := at_cell (at_old wr (.cells #[.string ⟨#[]⟩, .string ⟨#[]⟩, .int .i64 0] 79 (0, 0)) hx) 2
      have b0 := at_cell (at_old wr.drew (.cells #[.string ⟨#[]⟩, .string ⟨#[]⟩, .int .i64 0] 79 (0, 0)) hx) 0
      have b1 := at_cell (at_old wr.drew (.cells #[.string ⟨#[]⟩, .string ⟨#[]⟩, .int .i64 0] 79 (0, 0)) hx) 1
      have b2 := at_cell (at_old wr.drew (.cells #[.string ⟨#[]⟩, .string ⟨#[]⟩, .int .i64 0] 79 (0, 0)) hx) 2
      have c0 := at_cell hx 0
      have c1 := at_cell hx 1
      have c2 := at_cell hx 2
      have HNM := Lib.hid fun W => rname_calls a (j : Nat) (by omega) (by omega) (by omega) W
      have hes : ser a (j + 1) = nm a (j : Nat) :: ser a j := rfl
      have HE2 : Hid (∀ v, flk t.L (nm a (j : Nat)) = v → (fnd t (ser a (j + 1))).map Fl.bs = (match v with | some x => [x.bs] | none => []) ++ (fnd t (ser a j)).map Fl.bs) := Lib.hid (by
        rintro v rfl
        rw [hes]
        unfold fnd
        rw [List.filterMap_cons]
        cases flk t.L (nm a (j : Nat)) <;> rfl)
      have HG : Hid (∀ W, Below wr.heap.size wr W → Calls Tryz.prog 32 #[.agg #[.slice p n c, .int .i64 most, .int .i64 bad], .string ⟨(nm a (j : Nat)).toArray⟩] W fun e w' => ∃ nmx y, ∃ S : Nat, e = .returned (.tuple #[.agg #[.string nmx, .string y, .int .i64 S], .bool (flk t.L (nm a (j : Nat))).isSome]) ∧ y.data.toList = (got t.L (nm a (j : Nat))).bs ∧ Below W.heap.size W w') := Lib.hid fun W hb =>
        (get_calls t.L p c n HN.out most bad ⟨(nm a (j : Nat)).toArray⟩ W (HF.out.below (HC.out.below.trans (hb.mono HC.out.below.size))) HR.out).mono fun e w' hp => by
          obtain ⟨nmx, y, S, h1, h2, _, h4⟩ := get_open hp
          exact ⟨nmx, y, S, h1, h2, h4⟩
      obtain ⟨hs, hhs⟩ : ∃ hs, (flk t.L (nm a (j : Nat))).isSome = hs := ⟨_, rfl⟩
      obtain ⟨xb, hxb⟩ : ∃ xb, (got t.L (nm a (j : Nat))).bs = xb := ⟨_, rfl⟩
      rw [hhs, hxb] at HG
      have HE3 := Lib.hid (show (fnd t (ser a (j + 1))).map Fl.bs = (if hs = true then [xb] else []) ++ (fnd t (ser a j)).map Fl.bs by
        have := HE2.out _ rfl
        rw [this, ← hhs, ← hxb]
        cases h : flk t.L (nm a (j : Nat)) with
        | none => rfl
        | some x => rw [got_some h]; rfl)
      have bd : Below wr.heap.size wr wr := Below.refl _ _
      clear hes HE2 hhs hxb
      go_wp2_with fail
      go_region_with (first
        | (go_at_call 18; refine (HNM.out _).mono ?_; rintro e w' ⟨rfl, rfl⟩)
        | (go_at_call 32; refine (HG.out _ (by first | exact bd | exact below_drew bd | exact bd.drew | exact bd.alloc (Nat.le_refl _) _ | exact (below_drew bd).alloc (Nat.le_refl _) _)).mono ?_; rintro e w5 ⟨nmx, y, S, rfl, hy, hb5⟩; try (have kx := (hb5.block wr.heap.size (by simp)).trans (at_new _ _); have z0 := at_cell kx 0; have z1 := at_cell kx 1; have z2 := at_cell kx 2; have f0 := at_frozen kx 0; have f1 := at_frozen kx 1; have f2 := at_frozen kx 2; have zl := at_lt kx)))
      all_goals
        have B5 : Below wr.heap.size wr w5 := by
          first | exact (bd.alloc (Nat.le_refl _) _).trans (hb5.mono (by simp)) | exact ((below_drew bd).alloc (Nat.le_refl _) _).trans (hb5.mono (by simp)) | exact hb5 | exact bd.trans hb5 | exact (below_drew bd).trans hb5 | exact bd.drew.trans hb5
        first
          | (obtain ⟨W6, hW⟩ : ∃ W6, (((w5.setCell ⟨wr.heap.size, 0, none⟩ (.string nmx)).setCell ⟨wr.heap.size, 1, none⟩ (.string y)).setCell ⟨wr.heap.size, 2, none⟩ (.int .i64 (S : Nat))) = W6 := ⟨_, rfl⟩
             rw [hW]
             have e6 := file_box (a := .string nmx) (b := .string y) (c := .int .i64 (S : Nat)) kx
             have B6 := ((B5.setCell (p := ⟨wr.heap.size, 0, none⟩) (by have := B5.size; first | exact Nat.le_refl _ | omega) (.string nmx)).setCell (p := ⟨wr.heap.size, 1, none⟩) (by have := B5.size; first | exact Nat.le_refl _ | omega) (.string y)).setCell (p := ⟨wr.heap.size, 2, none⟩) (by have := B5.size; first | exact Nat.le_refl _ | omega) (.int .i64 (S : Nat))
             rw [hW] at e6 B6
             generalize hG : wr.heap.size = gx at e6
             first | rw [hG] | skip)
          | (obtain ⟨W6, hW⟩ : ∃ W6, ((((w5.alloc (.cells #[.string ⟨#[]⟩, .string ⟨#[]⟩, .int .i64 0] 79 (0, 0))).setCell ⟨w5.heap.size, 0, none⟩ (.string nmx)).setCell ⟨w5.heap.size, 1, none⟩ (.string y)).setCell ⟨w5.heap.size, 2, none⟩ (.int .i64 (S : Nat))) = W6 := ⟨_, rfl⟩
             rw [hW]
             have e6 := file_box (a := .string nmx) (b := .string y) (c := .int .i64 (S : Nat)) (at_new w5 (.cells #[.string ⟨#[]⟩, .string ⟨#[]⟩, .int .i64 0] 79 (0, 0)))
             have B6 := (((B5.alloc B5.size (.cells #[.string ⟨#[]⟩, .string ⟨#[]⟩, .int .i64 0] 79 (0, 0))).setCell (p := ⟨w5.heap.size, 0, none⟩) (by have := B5.size; first | exact Nat.le_refl _ | omega) (.string nmx)).setCell (p := ⟨w5.heap.size, 1, none⟩) (by have := B5.size; first | exact Nat.le_refl _ | omega) (.string y)).setCell (p := ⟨w5.heap.size, 2, none⟩) (by have := B5.size; first | exact Nat.le_refl _ | omega) (.int .i64 (S : Nat))
             rw [hW] at e6 B6
             generalize hG : w5.heap.size = gx at e6
             first | rw [hG] | skip)
          | (obtain ⟨W6, hW⟩ : ∃ W6, w5.alloc (.cells #[.string nmx, .string y, .int .i64 (S : Nat)] 79 (0, 0)) = W6 := ⟨_, rfl⟩
             rw [hW]
             have e6 := at_new w5 (.cells #[.string nmx, .string y, .int .i64 (S : Nat)] 79 (0, 0))
             have B6 := B5.alloc B5.size (.cells #[.string nmx, .string y, .int .i64 (S : Nat)] 79 (0, 0))
             rw [hW] at e6 B6
             generalize hG : w5.heap.size = gx at e6
             first | rw [hG] | skip)
        have hy2 : y = ⟨xb.toArray⟩ := by
          cases y with
          | mk dd => subst hy; simp
        subst hy2
        have y1 := at_cell e6 1
        have C6 := Lib.hid (HC.out.same B6)
        have HB6 := Lib.hid ((B6.block _ (at_lt HB.out)).trans HB.out)
        clear hy e6 hG hW B6 B5 hb5 bd a0 a1 a2 b0 b1 b2 c0 c1 c2 hx HG HNM
        try clear kx z0 z1 z2 f0 f1 f2 zl
        cases hs with
        | false =>
          have HE4 := Lib.hid (show D ++ (fnd t (ser a j)).map Fl.bs = (fnd t (ser a K)).map Fl.bs by have h1 := HE.out; rw [HE3.out] at h1; exact h1)
          clear HE3
          go_wp2_with fail
          go_roundw
          case rel => exact ⟨j, D, by omega, by go_num, by omega, HE4, HB6, C6.out⟩
          case measure => first | (simp [intOf]; done) | (simp [intOf]; omega)
        | true =>
          have HE4 := Lib.hid (show (D ++ [xb]) ++ (fnd t (ser a j)).map Fl.bs = (fnd t (ser a K)).map Fl.bs by have h1 := HE.out; rw [HE3.out] at h1; rw [← h1]; simp)
          have HO := Lib.hid C6.out.own
          have hs6 := C6.out.below.size
          clear HE3
          go_wp2_with (at_builtin; refine Own.append_any rfl _ _ 44 rfl w.heap.size 9 i0 _ 1 16 Tryz.underlying44 hi hz0 hz1 hz2 rfl (by decide) _ _ _ rfl (World.ownsRow.alloc HO.out _) _ 1 1 [.string ⟨xb.toArray⟩] rfl (fun h => nomatch h) rfl (Rw.one_new _ _ _ _ (by simp)) (by simp [Value.oneCell']) (by show D.length + 1 ≤ _; unfold maxLen; omega) (by show (D.length + 1) * _ ≤ _; omega) (by simp; omega) ?_; intro v' w1 hown1 hgrow1)
          have C7 := Lib.hid (C6.out.step _ hown1 hgrow1)
          have HB7 := Lib.hid ((hgrow1.block _ (at_lt (at_old _ _ HB6.out)) fun e => row_type HO.out HB6.out (by decide) e.symm).trans (at_old _ _ HB6.out))
          clear hown1 hgrow1
          go_wp2_with fail
          go_roundw
          case rel => exact ⟨j, D ++ [xb], by omega, by go_num, by rw [List.length_append, List.length_singleton]; omega, HE4, HB7, C7.out⟩
          case measure => first | (simp [intOf]; done) | (simp [intOf]; omega)
end Go.Proofs.YtngangdjbbbbdaaGreatDoor.Gen
end

section
namespace Go.Proofs.YtngangdjbbbbdaaGreatDoor.Sto
open Go.RowKit Go.Proofs.YtngangdjbbbbdaaGreatDoor.Own
open Go.Proofs.YtngangdjbbbbdaaGreatDoor.Rw (str strs Row1 below_drew)

set_option maxRecDepth 100000 in
set_option maxHeartbeats 4000000 in
theorem rrem_calls (r : St) (p : Option Addr) (c n : Nat) (hn : r.L.length = n) (a : ByteArray) (hz : a.size ≤ 1000000) (hd : r.bad ≤ 9223372036854775807) (w : World) (h : Fs w p c r.L) (hr : Rise Fl.nm r.L) (hN : n ≤ 1000000) :
    Calls Tryz.prog 33 #[rv p n c r.most r.bad, .string a] w (RPost w p (remT r a.data.toList) (remC r a.data.toList)) := by
  obtain ⟨most, hmost⟩ : ∃ x, r.most = x := ⟨_, rfl⟩
  obtain ⟨bad, hbad⟩ : ∃ x, r.bad = x := ⟨_, rfl⟩
  have hBeg := fun W => rbegin_calls r p c n a hz hd W
  simp only [hmost, hbad] at hBeg
  replace hBeg := Lib.hid hBeg
  have HM := Lib.hid (And.intro hmost hbad)
  rw [hmost, hbad]
  have H := Lib.hid h
  have HN := Lib.hid hn
  have A0 := Lib.hid (RefA.start w (.slice p n c) (.int .i64 most) (.int .i64 bad))
  have hR := Lib.hid hr
  have hWo := Lib.hid (fun W hb => without_calls r.L p c n hn hN a W (h.below hb))
  have hPl := Lib.hid (fun (W : World) hb => place_calls r.L p c n hn most bad a W (h.below hb))
  clear h hn hmost hbad hr
  go_enter Tryz.func33, Tryz.ntmps33
  go_wp2_with fail
  refine (hBeg.out _).mono ?_
  rintro e w1 ⟨rfl, hb1⟩
  have A0' := Lib.hid (A0.out.step hb1)
  by_cases h0 : begC r a.data.toList = 0
  rotate_left
  · have HT : Hid (remT r a.data.toList = begT r a.data.toList ∧ remC r a.data.toList = begC r a.data.toList) := Lib.hid ⟨if_neg h0, if_neg h0⟩
    obtain ⟨code, hcode⟩ : ∃ x, begC r a.data.toList = x := ⟨_, rfl⟩
    obtain ⟨b1, hb1⟩ : ∃ x, (begT r a.data.toList).bad = x := ⟨_, rfl⟩
    have hbm : (begT r a.data.toList).most = most ∧ (begT r a.data.toList).L = r.L := by rw [← HM.out.1]; unfold begT; split <;> exact ⟨rfl, rfl⟩
    rw [hcode, hb1]
    rw [hcode] at h0
    have hcb : (code != 0) = true := by simpa using h0
    have A1 := A0'
    have n0 := (at_cell A1.out.box 0 : _ = some _)
    have n1 := (at_cell A1.out.box 1 : _ = some _)
    have n2 := (at_cell A1.out.box 2 : _ = some _)
    have nf0 := at_frozen A1.out.box 0
    have nf1 := at_frozen A1.out.box 1
    have nf2 := at_frozen A1.out.box 2
    have m0 := (at_cell A1.out.res 0 : _ = some _)
    have m1 := (at_cell A1.out.res 1 : _ = some _)
    have m2 := (at_cell A1.out.res 2 : _ = some _)
    have mf0 := at_frozen A1.out.res 0
    have mf1 := at_frozen A1.out.res 1
    have mf2 := at_frozen A1.out.res 2
    have HC := Lib.hid (And.intro hbm (And.intro hb1 hcode))
    clear hb1 hbm hcode h0
    go_wp2_with fail
    refine bodyPost_ret (v := .tuple #[rv p n c most b1, .int .i64 code]) ?_ rfl ?_
    · simp [results, Tryz.results33, go_sem, *]
    · rw [HT.out.1, HT.out.2, HC.out.2.2]
      exact RPost.same (by rw [HC.out.1.2]; exact H.out) (by rw [HC.out.1.2]; exact HN.out) HC.out.1.1 HC.out.2.1 rfl (by repeat' (first | exact A1.out.below | refine Below.setCell ?_ ?_ _ | refine Below.alloc ?_ ?_ _ | refine below_drew ?_ | exact Nat.le_refl _ | exact Nat.le_succ _ | (simp; done) | (have := A1.out.lt; simp; omega)))
  have e0 : begT r a.data.toList = r := by
    have hb := beg_nm h0
    by_cases hp : 0 < r.bad
    · rw [(begC_io hb hp).1] at h0; cases h0
    · exact (begC_ok hb hp).2
  rw [h0, e0, HM.out.2]
  have A1 := A0'
  have n0 := (at_cell A1.out.box 0 : _ = some _)
  have n1 := (at_cell A1.out.box 1 : _ = some _)
  have n2 := (at_cell A1.out.box 2 : _ = some _)
  have nf0 := at_frozen A1.out.box 0
  have nf1 := at_frozen A1.out.box 1
  have nf2 := at_frozen A1.out.box 2
  have m0 := (at_cell A1.out.res 0 : _ = some _)
  have m1 := (at_cell A1.out.res 1 : _ = some _)
  have m2 := (at_cell A1.out.res 2 : _ = some _)
  have mf0 := at_frozen A1.out.res 0
  have mf1 := at_frozen A1.out.res 1
  have mf2 := at_frozen A1.out.res 2
  go_wp2_with fail
  refine (hPl.out _ (by repeat' (first | exact A1.out.below | refine Below.setCell ?_ ?_ _ | refine Below.alloc ?_ ?_ _ | refine below_drew ?_ | exact Nat.le_refl _ | exact Nat.le_succ _ | (simp; done) | (have := A1.out.lt; simp; omega)))).mono ?_
  clear n0 n1 n2 nf0 nf1 nf2 m0 m1 m2 mf0 mf1 mf2
  rintro e w2 ⟨k, rfl, hb2, hk⟩
  replace A1 := Lib.hid ((A1.out.set (.slice p n c) (.int .i64 most) (.int .i64 bad)).step hb2)
  clear hb2 A0'
  have n0 := (at_cell A1.out.box 0 : _ = some _)
  have n1 := (at_cell A1.out.box 1 : _ = some _)
  have n2 := (at_cell A1.out.box 2 : _ = some _)
  have nf0 := at_frozen A1.out.box 0
  have nf1 := at_frozen A1.out.box 1
  have nf2 := at_frozen A1.out.box 2
  have m0 := (at_cell A1.out.res 0 : _ = some _)
  have m1 := (at_cell A1.out.res 1 : _ = some _)
  have m2 := (at_cell A1.out.res 2 : _ = some _)
  have mf0 := at_frozen A1.out.res 0
  have mf1 := at_frozen A1.out.res 1
  have mf2 := at_frozen A1.out.res 2
  rcases plat_lk hR.out hk with ⟨rfl, hl⟩ | ⟨i, hi, rfl, hl⟩
  · have HT : Hid (remT r a.data.toList = r ∧ remC r a.data.toList = 7) := Lib.hid (by unfold remT remC; rw [if_pos h0, if_pos h0, hl]; exact ⟨rfl, rfl⟩)
    clear hl hk
    go_wp2_with fail
    refine bodyPost_ret (v := .tuple #[rv p n c most bad, .int .i64 7]) ?_ rfl ?_
    · simp [results, Tryz.results33, go_sem, *]
    · rw [HT.out.1, HT.out.2]
      exact RPost.same H.out HN.out HM.out.1 HM.out.2 rfl (by repeat' (first | exact A1.out.below | refine Below.setCell ?_ ?_ _ | refine Below.alloc ?_ ?_ _ | refine below_drew ?_ | exact Nat.le_refl _ | exact Nat.le_succ _ | (simp; done) | (have := A1.out.lt; simp; omega)))
  · have HT : Hid (remT r a.data.toList = ⟨fwo r.L a.data.toList, r.most, r.bad⟩ ∧ remC r a.data.toList = 0) := Lib.hid (by unfold remT remC; rw [if_pos h0, if_pos h0, hl]; exact ⟨rfl, rfl⟩)
    clear hl hk
    have q1 : ¬ (i : Int) < 0 := by omega
    go_wp2_with fail
    refine (hWo.out _ (by repeat' (first | exact A1.out.below | refine Below.setCell ?_ ?_ _ | refine Below.alloc ?_ ?_ _ | refine below_drew ?_ | exact Nat.le_refl _ | exact Nat.le_succ _ | (simp; done) | (have := A1.out.lt; simp; omega)))).mono ?_
    clear n0 n1 n2 nf0 nf1 nf2 m0 m1 m2 mf0 mf1 mf2
    rintro e w3 ⟨v3, rfl, hW3⟩
    obtain ⟨-, p3, c3, e3, -⟩ := fs_own hW3.own
    obtain ⟨n3, hn3⟩ : ∃ n3, (fwo r.L a.data.toList).length = n3 := ⟨_, rfl⟩
    rw [hn3] at e3
    subst e3
    have A2 := A1
    replace A1 := Lib.hid (A1.out.step hW3.below)
    have n0 := (at_cell A1.out.box 0 : _ = some _)
    have n1 := (at_cell A1.out.box 1 : _ = some _)
    have n2 := (at_cell A1.out.box 2 : _ = some _)
    have nf0 := at_frozen A1.out.box 0
    have nf1 := at_frozen A1.out.box 1
    have nf2 := at_frozen A1.out.box 2
    have m0 := (at_cell A1.out.res 0 : _ = some _)
    have m1 := (at_cell A1.out.res 1 : _ = some _)
    have m2 := (at_cell A1.out.res 2 : _ = some _)
    have mf0 := at_frozen A1.out.res 0
    have mf1 := at_frozen A1.out.res 1
    have mf2 := at_frozen A1.out.res 2
    have HW3 := Lib.hid hW3
    clear hW3 hn3
    go_wp2_with fail
    refine bodyPost_ret (v := .tuple #[rv p3 n3 c3 most bad, .int .i64 0]) ?_ rfl ?_
    · simp [results, Tryz.results33, go_sem, *]
    · rw [HT.out.1, HT.out.2]
      refine RPost.new (r' := ⟨fwo r.L a.data.toList, r.most, r.bad⟩) HW3.out A2.out.below HM.out.1 HM.out.2 rfl (.inr ⟨(by repeat' (first | exact A1.out.below | refine Below.setCell ?_ ?_ _ | refine Below.alloc ?_ ?_ _ | refine below_drew ?_ | exact Nat.le_refl _ | exact Nat.le_succ _ | (simp; done) | (have := A1.out.lt; simp; omega))), fun k h1 h2 => ?_⟩)
      have := A2.out.lt
      rw [at_set_other _ (by omega), at_set_other _ (by omega), at_set_other _ (by omega), at_set_other _ (by omega)]
end Go.Proofs.YtngangdjbbbbdaaGreatDoor.Sto
end

section
namespace Go.Proofs.YtngangdjbbbbdaaGreatDoor.Sto
open Go.RowKit Go.Proofs.YtngangdjbbbbdaaGreatDoor.Own
open Go.Proofs.YtngangdjbbbbdaaGreatDoor.Rw (str strs Row1 below_drew)

set_option maxRecDepth 100000 in
set_option maxHeartbeats 4000000 in
theorem rren_calls (r : St) (p : Option Addr) (c n : Nat) (hn : r.L.length = n) (a d : ByteArray) (hz : a.size ≤ 1000000) (hd : r.bad ≤ 9223372036854775807) (w : World) (h : Fs w p c r.L) (hr : Rise Fl.nm r.L) (hN : n ≤ 1000000) (ht : tot r.L ≤ 16777216) (hzd : d.size ≤ 1000000) :
    Calls Tryz.prog 34 #[rv p n c r.most r.bad, .string a, .string d] w (RPost w p (renT r a.data.toList d.data.toList) (renC r a.data.toList d.data.toList)) := by
  obtain ⟨most, hmost⟩ : ∃ x, r.most = x := ⟨_, rfl⟩
  obtain ⟨bad, hbad⟩ : ∃ x, r.bad = x := ⟨_, rfl⟩
  have hBeg := fun W => rbegin_calls r p c n a hz hd W
  simp only [hmost, hbad] at hBeg
  replace hBeg := Lib.hid hBeg
  have HM := Lib.hid (And.intro hmost hbad)
  rw [hmost, hbad]
  have H := Lib.hid h
  have HN := Lib.hid hn
  have A0 := Lib.hid (RefA.start w (.slice p n c) (.int .i64 most) (.int .i64 bad))
  have hR := Lib.hid hr
  have hGet := Lib.hid (fun (W : World) hb => get_calls r.L p c n hn most bad a W (h.below hb) hr)
  have hWo := Lib.hid (fun W hb => without_calls r.L p c n hn hN a W (h.below hb))
  have hNd := Lib.hid (fun W => rnamed_calls d hzd W)
  have HTT := Lib.hid ht
  clear h hn hmost hbad hr ht
  go_enter Tryz.func34, Tryz.ntmps34
  go_wp2_with fail
  refine (hBeg.out _).mono ?_
  rintro e w1 ⟨rfl, hb1⟩
  have A0' := Lib.hid (A0.out.step hb1)
  by_cases h0 : begC r a.data.toList = 0
  rotate_left
  · have HT : Hid (renT r a.data.toList d.data.toList = begT r a.data.toList ∧ renC r a.data.toList d.data.toList = begC r a.data.toList) := Lib.hid ⟨if_neg h0, if_neg h0⟩
    obtain ⟨code, hcode⟩ : ∃ x, begC r a.data.toList = x := ⟨_, rfl⟩
    obtain ⟨b1, hb1⟩ : ∃ x, (begT r a.data.toList).bad = x := ⟨_, rfl⟩
    have hbm : (begT r a.data.toList).most = most ∧ (begT r a.data.toList).L = r.L := by rw [← HM.out.1]; unfold begT; split <;> exact ⟨rfl, rfl⟩
    rw [hcode, hb1]
    rw [hcode] at h0
    have hcb : (code != 0) = true := by simpa using h0
    have A1 := A0'
    have n0 := (at_cell A1.out.box 0 : _ = some _)
    have n1 := (at_cell A1.out.box 1 : _ = some _)
    have n2 := (at_cell A1.out.box 2 : _ = some _)
    have nf0 := at_frozen A1.out.box 0
    have nf1 := at_frozen A1.out.box 1
    have nf2 := at_frozen A1.out.box 2
    have m0 := (at_cell A1.out.res 0 : _ = some _)
    have m1 := (at_cell A1.out.res 1 : _ = some _)
    have m2 := (at_cell A1.out.res 2 : _ = some _)
    have mf0 := at_frozen A1.out.res 0
    have mf1 := at_frozen A1.out.res 1
    have mf2 := at_frozen A1.out.res 2
    have HC := Lib.hid (And.intro hbm (And.intro hb1 hcode))
    clear hb1 hbm hcode h0
    go_wp2_with fail
    refine bodyPost_ret (v := .tuple #[rv p n c most b1, .int .i64 code]) ?_ rfl ?_
    · simp [results, Tryz.results34, go_sem, *]
    · rw [HT.out.1, HT.out.2, HC.out.2.2]
      exact RPost.same (by rw [HC.out.1.2]; exact H.out) (by rw [HC.out.1.2]; exact HN.out) HC.out.1.1 HC.out.2.1 rfl (by repeat' (first | exact A1.out.below | refine Below.setCell ?_ ?_ _ | refine Below.alloc ?_ ?_ _ | refine below_drew ?_ | exact Nat.le_refl _ | exact Nat.le_succ _ | (simp; done) | (have := A1.out.lt; simp; omega)))
  have e0 : begT r a.data.toList = r := by
    have hb := beg_nm h0
    by_cases hp : 0 < r.bad
    · rw [(begC_io hb hp).1] at h0; cases h0
    · exact (begC_ok hb hp).2
  rw [h0, e0, HM.out.2]
  have A1 := A0'
  have n0 := (at_cell A1.out.box 0 : _ = some _)
  have n1 := (at_cell A1.out.box 1 : _ = some _)
  have n2 := (at_cell A1.out.box 2 : _ = some _)
  have nf0 := at_frozen A1.out.box 0
  have nf1 := at_frozen A1.out.box 1
  have nf2 := at_frozen A1.out.box 2
  have m0 := (at_cell A1.out.res 0 : _ = some _)
  have m1 := (at_cell A1.out.res 1 : _ = some _)
  have m2 := (at_cell A1.out.res 2 : _ = some _)
  have mf0 := at_frozen A1.out.res 0
  have mf1 := at_frozen A1.out.res 1
  have mf2 := at_frozen A1.out.res 2
  go_wp2_with fail
  replace A1 := Lib.hid (A1.out.set (.slice p n c) (.int .i64 most) (.int .i64 bad))
  generalize ((w1.setCell ⟨w.heap.size, 0, none⟩ (.slice p n c)).setCell ⟨w.heap.size, 1, none⟩ (.int .i64 most)).setCell ⟨w.heap.size, 2, none⟩ (.int .i64 bad) = W at A1 ⊢
  clear n0 n1 n2 nf0 nf1 nf2 m0 m1 m2 mf0 mf1 mf2
  have n0 := (at_cell A1.out.box 0 : _ = some _)
  have n1 := (at_cell A1.out.box 1 : _ = some _)
  have n2 := (at_cell A1.out.box 2 : _ = some _)
  have nf0 := at_frozen A1.out.box 0
  have nf1 := at_frozen A1.out.box 1
  have nf2 := at_frozen A1.out.box 2
  have m0 := (at_cell A1.out.res 0 : _ = some _)
  have m1 := (at_cell A1.out.res 1 : _ = some _)
  have m2 := (at_cell A1.out.res 2 : _ = some _)
  have mf0 := at_frozen A1.out.res 0
  have mf1 := at_frozen A1.out.res 1
  have mf2 := at_frozen A1.out.res 2
  clear A0'
  have hNd2 := hNd.out W
  cases hd : isNm d.data.toList with
  | false =>
    rw [hd] at hNd2
    have HT : Hid (renT r a.data.toList d.data.toList = r ∧ renC r a.data.toList d.data.toList = 1) := Lib.hid (by unfold renT renC; rw [if_pos h0, if_pos h0, hd]; simp)
    refine hNd2.mono ?_
    rintro e w' ⟨rfl, rfl⟩
    clear hNd2 hd
    go_wp2_with fail
    refine bodyPost_ret (v := .tuple #[rv p n c most bad, .int .i64 1]) ?_ rfl ?_
    · simp [results, Tryz.results34, go_sem, *]
    · rw [HT.out.1, HT.out.2]
      exact RPost.same H.out HN.out HM.out.1 HM.out.2 rfl (by repeat' (first | exact A1.out.below | refine Below.setCell ?_ ?_ _ | refine Below.alloc ?_ ?_ _ | refine below_drew ?_ | exact Nat.le_refl _ | exact Nat.le_succ _ | (simp; done) | (have := A1.out.lt; simp; omega)))
  | true =>
    rw [hd] at hNd2
    refine hNd2.mono ?_
    rintro e w' ⟨rfl, rfl⟩
    have hd' := Lib.hid hd
    clear hNd2 hd
    go_wp2_with fail
    refine (hGet.out _ A1.out.below).mono ?_
    clear n0 n1 n2 nf0 nf1 nf2 m0 m1 m2 mf0 mf1 mf2
    intro e w2 hG
    obtain ⟨nmx, y, S, rfl, hy, hS, hb2⟩ := get_open hG
    have A9 := Lib.hid (A1.out.step hb2)
    replace A1 := Lib.hid ((A1.out.step hb2).step ((Below.refl _ w2).alloc (Nat.le_refl _) (.cells #[.string nmx, .string y, .int .i64 (S : Int)] 79 (0, 0))))
    clear hG hb2
    have HY := Lib.hid (And.intro hy hS)
    clear hy hS
    have n0 := (at_cell A1.out.box 0 : _ = some _)
    have n1 := (at_cell A1.out.box 1 : _ = some _)
    have n2 := (at_cell A1.out.box 2 : _ = some _)
    have nf0 := at_frozen A1.out.box 0
    have nf1 := at_frozen A1.out.box 1
    have nf2 := at_frozen A1.out.box 2
    have m0 := (at_cell A1.out.res 0 : _ = some _)
    have m1 := (at_cell A1.out.res 1 : _ = some _)
    have m2 := (at_cell A1.out.res 2 : _ = some _)
    have mf0 := at_frozen A1.out.res 0
    have mf1 := at_frozen A1.out.res 1
    have mf2 := at_frozen A1.out.res 2
    cases hl : flk r.L a.data.toList with
    | none =>
      have HT : Hid (renT r a.data.toList d.data.toList = r ∧ renC r a.data.toList d.data.toList = 7) := Lib.hid (by unfold renT renC; rw [if_pos h0, if_pos h0, hl, hd'.out]; simp)
      go_wp2_with fail
      refine bodyPost_ret (v := .tuple #[rv p n c most bad, .int .i64 7]) ?_ rfl ?_
      · simp [results, Tryz.results34, go_sem, *]
      · rw [HT.out.1, HT.out.2]
        exact RPost.same H.out HN.out HM.out.1 HM.out.2 rfl (by repeat' (first | exact A1.out.below | refine Below.setCell ?_ ?_ _ | refine Below.alloc ?_ ?_ _ | refine below_drew ?_ | exact Nat.le_refl _ | exact Nat.le_succ _ | (simp; done) | (have := A1.out.lt; simp; omega)))
    | some x =>
      have HT : Hid (renT r a.data.toList d.data.toList = ⟨fpt (fwo r.L a.data.toList) ⟨d.data.toList, (got r.L a.data.toList).bs, (got r.L a.data.toList).sure⟩, r.most, r.bad⟩ ∧ renC r a.data.toList d.data.toList = 0) := Lib.hid (by unfold renT renC; rw [if_pos h0, if_pos h0, hl, hd'.out]; simp)
      clear hl
      go_wp2_with fail
      obtain ⟨N9, hN9⟩ : ∃ N9, w2.heap.size = N9 := ⟨_, rfl⟩
      have a9 := at_newk w2 (.cells #[.string nmx, .string y, .int .i64 (S : Int)] 79 (0, 0)) hN9.symm
      rw [hN9]
      have h9 : w.heap.size + 1 < N9 := by rw [← hN9]; exact A9.out.lt
      generalize w2.alloc (.cells #[.string nmx, .string y, .int .i64 (S : Int)] 79 (0, 0)) = W3 at *
      have d1 := (at_cell a9 1 : _ = some _)
      have d2 := (at_cell a9 2 : _ = some _)
      have d0l := at_lt a9
      have b0l := at_lt A1.out.box
      clear m0 m1 m2 mf0 mf1 mf2 n1 n2 nf1 nf2 hN9 A9
      go_region_with (first
        | (go_at_call 63; refine (hWo.out _ (by first | exact A1.out.below | exact below_drew A1.out.below)).mono ?_; rintro e w6 ⟨v6, rfl, hW6⟩
           obtain ⟨hn6, p6, c6, rfl, hF6, -⟩ := fs_own hW6.own
           obtain ⟨n6, hn6'⟩ : ∃ n6, (fwo r.L a.data.toList).length = n6 := ⟨_, rfl⟩
           rw [hn6']
           have d61 := (hW6.below.cell (p := ⟨N9, 1, none⟩) d0l).trans d1
           have d62 := (hW6.below.cell (p := ⟨N9, 2, none⟩) d0l).trans d2
           have A6 := Lib.hid (A1.out.repack hW6.below)
           have HF6 := Lib.hid hF6
           have HN6 := Lib.hid hn6'
           have s6 := hW6.below.size
           clear hn6 hF6 hn6' hW6)
        | (go_at_call 43; refine (with_calls (fwo r.L a.data.toList) p6 c6 n6 HN6.out (by have := wo_len (nm := Fl.nm) r.L a.data.toList; rw [← HN6.out]; have := HN.out; unfold fwo; omega) ⟨d.data.toList, y.data.toList, S⟩ _ (HF6.out.below (by first | exact Below.refl _ _ | exact below_drew (Below.refl _ _)))).mono ?_; rintro e w7 ⟨v7, rfl, hW7⟩
           obtain ⟨-, p7, c7, e7, -⟩ := fs_own hW7.own
           obtain ⟨n7, hn7⟩ : ∃ n7, (fpt (fwo r.L a.data.toList) ⟨d.data.toList, y.data.toList, S⟩).length = n7 := ⟨_, rfl⟩
           rw [hn7] at e7
           subst e7
           have A7 := Lib.hid (A6.out.step hW7.below)
           have n0' := (at_cell A7.out.box 0 : _ = some _)
           have nf0' := at_frozen A7.out.box 0
           have HW7 := Lib.hid hW7
           clear hW7 hn7))
      all_goals
        have HZ := Lib.hid (RPost.new (p := p) (r' := ⟨fpt (fwo r.L a.data.toList) ⟨d.data.toList, (got r.L a.data.toList).bs, (got r.L a.data.toList).sure⟩, r.most, r.bad⟩) (w := w) (by
          have e := HW7.out
          rw [HY.out.1, HY.out.2] at e
          exact e) A6.out.below HM.out.1 HM.out.2 (e := .returned (.tuple #[rv p7 n7 c7 most bad, .int .i64 0])) rfl (.inr ⟨A7.out.below.setCell (p := ⟨w.heap.size, 0, none⟩) (Nat.le_refl _) (.slice p7 n7 c7) |>.setCell (p := ⟨w.heap.size + 1, 0, none⟩) (Nat.le_succ _) (.slice p7 n7 c7) |>.setCell (p := ⟨w.heap.size + 1, 1, none⟩) (Nat.le_succ _) (.int .i64 most) |>.setCell (p := ⟨w.heap.size + 1, 2, none⟩) (Nat.le_succ _) (.int .i64 bad), fun k h1 h2 => by
            have := A6.out.lt
            rw [at_set_other _ (by omega), at_set_other _ (by omega), at_set_other _ (by omega), at_set_other _ (by omega)]⟩))
        have m0 := (at_cell A7.out.res 0 : _ = some _)
        have m1 := (at_cell A7.out.res 1 : _ = some _)
        have m2 := (at_cell A7.out.res 2 : _ = some _)
        have mf0 := at_frozen A7.out.res 0
        have mf1 := at_frozen A7.out.res 1
        have mf2 := at_frozen A7.out.res 2
        have n1' := (at_cell A7.out.box 1 : _ = some _)
        have n2' := (at_cell A7.out.box 2 : _ = some _)
        clear HW7 HY hd' hBeg hGet hWo hNd HF6 HN6 A0 hR HTT a9 d0l b0l n0 nf0 s6
        go_wp2_with fail
        refine bodyPost_ret (v := .tuple #[rv p7 n7 c7 most bad, .int .i64 0]) ?_ rfl ?_
        · simp [results, Tryz.results34, go_sem, *]
        · rw [HT.out.1, HT.out.2]; exact HZ.out
end Go.Proofs.YtngangdjbbbbdaaGreatDoor.Sto
end

section
namespace Go.Proofs.YtngangdjbbbbdaaGreatDoor.Gen
open Go.RowKit Go.Proofs.YtngangdjbbbbdaaGreatDoor.Own

structure Fi where
  k : Int
  s : ByteArray
  q : Bool
/-- a slice of files, as it lies in memory -/
structure FRow (w : World) (p : Option Addr) (c n : Nat) (f : Nat → Fi) : Prop where
  cap : n ≤ c
  max : c ≤ maxLen
  cells : n = 0 ∨ ∃ g o, p = some ⟨g, o, none⟩ ∧ g < w.heap.size ∧ ∀ i, i < n → w.cell? ⟨g, o + i * 3, none⟩ = some (.int .u8 (f i).k) ∧ w.cell? ⟨g, o + i * 3 + 1, none⟩ = some (.string (f i).s) ∧ w.cell? ⟨g, o + i * 3 + 2, none⟩ = some (.bool (f i).q)
  ok : ∀ i, i < n → 0 ≤ (f i).k ∧ (f i).k ≤ 255
theorem FRow.below {w w' : World} {p : Option Addr} {cap n : Nat} {f : Nat → Fi} (h : FRow w p cap n f) (hb : Below w.heap.size w w') : FRow w' p cap n f :=
  ⟨h.cap, h.max, h.cells.imp id fun ⟨g, o, e, hl, k⟩ => ⟨g, o, e, Nat.lt_of_lt_of_le hl hb.size, fun i hi => ⟨(hb.cell (p := ⟨g, _, none⟩) hl).trans (k i hi).1, (hb.cell (p := ⟨g, _, none⟩) hl).trans (k i hi).2.1, (hb.cell (p := ⟨g, _, none⟩) hl).trans (k i hi).2.2⟩⟩, h.ok⟩
section
open Go.ChangeShapes Go.WideShapes Go.Deep
variable {H : Type} {enc : TypeId × Value → H} {w : World} {spare : Nat → Bool} {held : Bool}
set_option maxRecDepth 100000 in
theorem files_open {v : Value} {d : DataW H} {p : List MemPlace} {base b0 : Nat} {r : Reach} (ho : Value.okWide Tryz.prog w r b0 22 v) (h : DataW.Trod enc Tryz.prog w base spare held 22 v d p) :
    ∃ q n c f, v = .slice q n c ∧ FRow w q c n f := by
  obtain ⟨a, len, cap, rfl⟩ := okWide_slice Tryz.underlying22 ho
  obtain ⟨n, E, hrow, mm, hE⟩ := Own.args_slice Tryz.underlying22 (size := 3) (by kernel_rfl) (by omega) h ⟨_, _, _, rfl⟩
  have hz : ∀ i, ∃ f : Fi, i < n → (0 ≤ f.k ∧ f.k ≤ 255) ∧ E i 0 = .int .u8 f.k ∧ E i 1 = .string f.s ∧ E i 2 = .bool f.q := fun i => by
    by_cases hi : i < n
    · obtain ⟨y, hy⟩ := hE i hi
      obtain ⟨m0, y0, h0⟩ := Own.leaf_field Tryz.underlying54 hy 0 _ rfl 0 1 rfl (by kernel_rfl) (by omega)
      obtain ⟨m1, y1, h1⟩ := Own.leaf_field Tryz.underlying54 hy 1 _ rfl 1 1 rfl (by kernel_rfl) (by omega)
      obtain ⟨m2, y2, h2⟩ := Own.leaf_field Tryz.underlying54 hy 2 _ rfl 2 1 rfl (by kernel_rfl) (by omega)
      obtain ⟨k, e0, hw⟩ := Own.leaf_int Tryz.underlying5 h0
      obtain ⟨s, e1, _⟩ := Own.leaf_string Tryz.underlying9 h1
      obtain ⟨q, e2⟩ := Own.leaf_bool Tryz.underlying4 h2
      exact ⟨⟨k, s, q⟩, fun _ => ⟨Own.wf8 hw, by simpa using e0, by simpa using e1, by simpa using e2⟩⟩
    · exact ⟨⟨0, ByteArray.empty, false⟩, fun h => absurd h hi⟩
  obtain ⟨a2, cap2, e, h1, h2, h3⟩ := hrow
  cases e
  refine ⟨a, len, cap, fun i => (hz i).choose, rfl, h1, h2, ?_, fun i hi => ((hz i).choose_spec hi).1⟩
  refine h3.imp id ?_
  rintro ⟨g, off, e, hl, hc⟩
  refine ⟨g, off, e, hl, fun i hi => ?_⟩
  obtain ⟨_, e0, e1, e2⟩ := (hz i).choose_spec hi
  have c0 := hc i 0 hi (by omega)
  have c1 := hc i 1 hi (by omega)
  have c2 := hc i 2 hi (by omega)
  rw [e0] at c0
  rw [e1] at c1
  rw [e2] at c2
  exact ⟨by simpa using c0, c1, c2⟩
end
end Go.Proofs.YtngangdjbbbbdaaGreatDoor.Gen
end

section
namespace Go.Proofs.YtngangdjbbbbdaaGreatDoor.Sto
open Go.RowKit Go.Proofs.YtngangdjbbbbdaaGreatDoor.Own Go.Proofs.YtngangdjbbbbdaaGreatDoor.KM Go.Proofs.YtngangdjbbbbdaaGreatDoor.Flt
open Go.Proofs.YtngangdjbbbbdaaGreatDoor.Rw (str strs Row1 below_drew)

/-- the document's store beside one: it never counts below none -/
def rf (t : St) : St := ⟨t.L, t.most, max 0 t.bad⟩
theorem rf_beg (t : St) (a : Bs) : begC (rf t) a = begC t a ∧ begT (rf t) a = rf (begT t a) := by
  by_cases h1 : isNm a = true
  · by_cases h2 : 0 < t.bad
    · have h3 : 0 < (rf t).bad := by show 0 < max 0 t.bad; omega
      obtain ⟨e1, e2⟩ := begC_io h1 h2
      obtain ⟨e3, e4⟩ := begC_io (t := rf t) h1 h3
      refine ⟨e3.trans e1.symm, e4.trans ?_⟩
      rw [e2]
      show St.mk t.L t.most (max 0 t.bad - 1) = St.mk t.L t.most (max 0 (t.bad - 1))
      congr 1; omega
    · have h3 : ¬ 0 < (rf t).bad := by show ¬ 0 < max 0 t.bad; omega
      obtain ⟨e1, e2⟩ := begC_ok h1 h2
      obtain ⟨e3, e4⟩ := begC_ok (t := rf t) h1 h3
      exact ⟨e3.trans e1.symm, e4.trans (by rw [e2])⟩
  · have h1' : isNm a = false := by simpa using h1
    obtain ⟨e1, e2⟩ := begC_arg (t := t) h1'
    obtain ⟨e3, e4⟩ := begC_arg (t := rf t) h1'
    exact ⟨e3.trans e1.symm, e4.trans (by rw [e2])⟩
theorem rf_app (t : St) (a s : Bs) : appC (rf t) a s = appC t a s ∧ appT (rf t) a s = rf (appT t a s) := by
  obtain ⟨e1, e2⟩ := rf_beg t a
  unfold appC appT
  rw [e1, e2]
  refine ⟨rfl, ?_⟩
  by_cases h : begC t a = 0
  · rw [if_pos h, if_pos h]
    by_cases h2 : (tot t.L : Int) + s.length > t.most
    · rw [if_pos h2]; exact if_pos h2
    · rw [if_neg h2]; exact if_neg h2
  · rw [if_neg h, if_neg h]
theorem rf_syn (t : St) (a : Bs) : synC (rf t) a = synC t a ∧ synT (rf t) a = rf (synT t a) := by
  obtain ⟨e1, e2⟩ := rf_beg t a
  unfold synC synT
  rw [e1, e2]
  refine ⟨rfl, ?_⟩
  by_cases h : begC t a = 0
  · rw [if_pos h, if_pos h]
    by_cases h2 : (flk t.L a).isSome
    · rw [if_pos h2]; exact if_pos h2
    · rw [if_neg h2]; exact if_neg h2
  · rw [if_neg h, if_neg h]
theorem rf_rem (t : St) (a : Bs) : remC (rf t) a = remC t a ∧ remT (rf t) a = rf (remT t a) := by
  obtain ⟨e1, e2⟩ := rf_beg t a
  unfold remC remT
  rw [e1, e2]
  refine ⟨rfl, ?_⟩
  by_cases h : begC t a = 0
  · rw [if_pos h, if_pos h]
    by_cases h2 : (flk t.L a).isSome
    · rw [if_pos h2]; exact if_pos h2
    · rw [if_neg h2]; exact if_neg h2
  · rw [if_neg h, if_neg h]
theorem rf_ren (t : St) (a d : Bs) : renC (rf t) a d = renC t a d ∧ renT (rf t) a d = rf (renT t a d) := by
  obtain ⟨e1, e2⟩ := rf_beg t a
  unfold renC renT
  rw [e1, e2]
  refine ⟨rfl, ?_⟩
  by_cases h : begC t a = 0
  · rw [if_pos h, if_pos h]
    by_cases h2 : isNm d = true ∧ (flk t.L a).isSome
    · rw [if_pos h2]; exact if_pos h2
    · rw [if_neg h2]; exact if_neg h2
  · rw [if_neg h, if_neg h]

/-- the document's row lies elsewhere -/
def Far (w : World) (bs : Nat → Prop) (p : Option Addr) : Prop := ∀ g o, p = some ⟨g, o, none⟩ → ¬ bs g ∧ g < w.heap.size
theorem Far.mono {w w' : World} {bs : Nat → Prop} {p : Option Addr} (h : Far w bs p) (hs : w.heap.size ≤ w'.heap.size) : Far w' bs p := fun g o e => ⟨(h g o e).1, Nat.lt_of_lt_of_le (h g o e).2 hs⟩
structure Pair (w0 w : World) (bs : Nat → Prop) (b : Nat) (t : St) (p : Option Addr) (c : Nat) : Prop where
  below : Below w0.heap.size w0 w
  sto : Sto w bs b t
  mine : ∀ k, bs k → w0.heap.size ≤ k
  fs : Fs w p c t.L
  far : Far w bs p
section
variable {w0 w w' : World} {bs : Nat → Prop} {b : Nat} {t t' : St} {p : Option Addr} {c : Nat}
theorem Pair.same (h : Pair w0 w bs b t p c) (hb : Below w.heap.size w w') : Pair w0 w' bs b t p c :=
  ⟨h.below.trans (hb.mono h.below.size), h.sto.below hb, h.mine, h.fs.below hb, h.far.mono hb.size⟩
/-- what an act leaves -/
def DoPost (w : World) (bs : Nat → Prop) (b : Nat) (p : Option Addr) (t' : St) (e : Ending) (w' : World) : Prop :=
  ∃ bs' p' c', e = .returned (.tuple #[rv p' t'.L.length c' t'.most (max 0 t'.bad), .bool true]) ∧ Sto w' bs' b t' ∧ Out bs w w' ∧ (∀ k, bs' k → bs k ∨ w.heap.size ≤ k) ∧ Fs w' p' c' t'.L ∧ Far w' bs' p' ∧ (p' = p ∨ ∀ g o, p' = some ⟨g, o, none⟩ → w.heap.size ≤ g)
theorem Pair.next (h : Pair w0 w bs b t p c) {bs' : Nat → Prop} {p' : Option Addr} {c' : Nat} (hs : Sto w' bs' b t') (ho : Out bs w w') (hn : ∀ k, bs' k → bs k ∨ w.heap.size ≤ k) (hf : Fs w' p' c' t'.L) (hfar : Far w' bs' p') : Pair w0 w' bs' b t' p' c' := by
  have hsz := h.below.size
  refine ⟨h.below.trans (ho.below hsz fun i hi => h.mine i hi), hs, fun k hk => ?_, hf, hfar⟩
  rcases hn k hk with h1 | h1
  · exact h.mine k h1
  · omega
/-- the document's call first, the store's behind it -/
theorem far_new {w1 w5 w6 : World} {p' : Option Addr} {bs' : Nat → Prop} (hall : ∀ k, bs k → k < w.heap.size) (hb : Below w.heap.size w w1) (hp : p' = p ∨ ∀ g o, p' = some ⟨g, o, none⟩ → w.heap.size ≤ g ∧ g < w1.heap.size) (hf : Far w bs p)
    (hs : w1.heap.size ≤ w5.heap.size) (hn : ∀ k, bs' k → bs k ∨ w5.heap.size ≤ k) (hs6 : w5.heap.size ≤ w6.heap.size) : Far w6 bs' p' := by
  have hlt := hb.size
  intro g o e
  have h1 : ¬ bs g ∧ g < w1.heap.size := by
    rcases hp with rfl | hp
    · exact ⟨(hf g o e).1, Nat.lt_of_lt_of_le (hf g o e).2 hlt⟩
    · obtain ⟨h2, h3⟩ := hp g o e
      exact ⟨fun hk => by have := hall g hk; omega, h3⟩
  refine ⟨fun hk => ?_, by omega⟩
  rcases hn g hk with h2 | h2
  · exact h1.1 h2
  · omega
end
end Go.Proofs.YtngangdjbbbbdaaGreatDoor.Sto
end


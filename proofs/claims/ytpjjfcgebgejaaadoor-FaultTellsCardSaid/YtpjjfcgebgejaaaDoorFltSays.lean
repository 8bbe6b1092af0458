/-
  Layer 9 (fault): what an error says, walked: Text, Error.
-/
import Derived.Test.YtpjjfcgebgejaaaDoorFltText
namespace Go.Proofs.YtpjjfcgebgejaaaDoor.Flt
open Go.RowKit Go.Proofs.YtpjjfcgebgejaaaDoor.Own Go.Proofs.YtpjjfcgebgejaaaDoor.Digit

def tls (l : List Lay) : List (Tlr × List UInt8) := l.flatMap fun x => [(.plc x.blk, placeL x.line), (.abt x.blk, x.what)]
theorem tls_app (l : List Lay) (x : Lay) : tls (l ++ [x]) = tls l ++ [(.plc x.blk, placeL x.line), (.abt x.blk, x.what)] := by simp [tls]
theorem tls_len (l : List Lay) : (tls l).length = 2 * l.length := by
  induction l with
  | nil => rfl
  | cons x r ih => show (tls r).length + 2 = _; rw [ih]; simp only [List.length_cons]; omega
theorem tls_txt (l : List Lay) : (tls l).map (·.2) = pieces l := by
  induction l with
  | nil => rfl
  | cons x r ih => show placeL x.line :: x.what :: (tls r).map (·.2) = _; rw [ih]; rfl
theorem tls_tells {w : World} {N : Nat} {l : List Lay} (h : ∀ x ∈ l, x.blk < N ∧ ∃ u, w.heap[x.blk]? = some (.cells #[.int .i64 x.line, .string ⟨x.what.toArray⟩, u] 43 (0, 0)))
    (hL : ∀ x ∈ l, -9223372036854775808 ≤ x.line ∧ x.line ≤ 9223372036854775807) : ∀ t ∈ tls l, Tells w N t.1 t.2 := by
  intro t ht
  simp only [tls, List.mem_flatMap] at ht
  obtain ⟨x, hx, ht⟩ := ht
  obtain ⟨h1, u, h2⟩ := h x hx
  obtain ⟨l1, l2⟩ := hL x hx
  simp only [List.mem_cons, List.not_mem_nil, or_false] at ht
  rcases ht with rfl | rfl
  · exact ⟨h1, x.line, _, u, h2, l1, l2, rfl⟩
  · exact ⟨h1, _, u, h2⟩
def tvs (l : List (Tlr × List UInt8)) : List Value := l.map fun t => tv t.1
theorem tvs_len (l : List (Tlr × List UInt8)) : (tvs l).length = l.length := by simp [tvs]
theorem tvs_app (l m : List (Tlr × List UInt8)) : tvs (l ++ m) = tvs l ++ tvs m := by simp [tvs]
theorem info_fn : (Tryd.prog.info? 45).map (fun i => (i.zero, i.size, i.bytes)) = some (some .nilFunc, 1, 8) := by kernel_rfl
theorem two_new (w : World) (x y : Value) (T : TypeId) (g : Nat) (hg : g = w.heap.size) : ∀ ad, some (⟨g, 0, none⟩ : Addr) = some ad → ∀ j u, [x, y][j]? = some u → (w.alloc (.cells #[x, y] T (0, 0))).cell? (ad.add j) = some u := by
  subst hg
  rintro ad ⟨⟩ j u hu
  rw [add0, at_cell (at_new w _)]
  simpa using hu

theorem join_at (ts : List (Tlr × List UInt8)) (p : Option Addr) (c N n : Nat) (w : World) (hn : ts.length = n) (h : Row1 w p c (tvs ts)) (hm : ∀ t ∈ ts, Tells w N t.1 t.2) (hN : N ≤ w.heap.size) (hT : Tab w)
    (hl : ts.length ≤ 2000010) (hj : (Lib.join (full (ts.map (·.2))) sep).length ≤ 140737488355328) :
    Calls Tryd.prog 27 #[.slice p n c] w fun e w' => e = .returned (.string ⟨(Lib.join (full (ts.map (·.2))) sep).toArray⟩) ∧ Below w.heap.size w w' := by
  subst hn
  exact join_calls ts p c N w h hm hN hT hl hj

structure SayAt (w wr : World) (ts : List (Tlr × List UInt8)) (v : Value) : Prop where
  own : wr.ownsRow w.heap.size 45 1 v ts.length (tvs ts)
  below : Below w.heap.size w wr
theorem SayAt.step {w wr w5 w1 : World} {ts ts' : List (Tlr × List UInt8)} {v v' : Value} {n : Nat} (h : SayAt w wr ts v) (hb : Below wr.heap.size wr w5)
    (hn : ts'.length = n) (hown : w1.ownsRow w.heap.size 45 1 v' (ts.length + n) (tvs ts ++ tvs ts')) (hg : w5.grownBy w1 v.ownBlock) : SayAt w w1 (ts ++ ts') v' := by
  have hs := h.below.size
  have hs5 := hb.size
  exact ⟨by rw [List.length_append, tvs_app, hn]; exact hown, (h.below.trans (hb.mono hs)).grown hg (by omega) (fun k hk => (World.ownsRow.lt h.own k hk).1)⟩

set_option maxRecDepth 100000 in
set_option maxHeartbeats 2000000 in
theorem text_calls (v : Value) (l : List Lay) (c : Int) (N : Nat) (w : World) (h : ErrN w N v l c) (hN : N ≤ w.heap.size) (hT : Tab w) (hl : l.length ≤ 1000000)
    (hL : ∀ x ∈ l, -9223372036854775808 ≤ x.line ∧ x.line ≤ 9223372036854775807) (c1 : -9223372036854775808 ≤ c) (c2 : c ≤ 9223372036854775807) (hj : (textL l c).length ≤ 140737488355328) :
    Calls Tryd.prog 10 #[v] w fun e w' => e = .returned (.string ⟨(textL l c).toArray⟩) ∧ Below w.heap.size w w' := by
  obtain ⟨i0, hi, hz0, hz1, hz2⟩ := info_parts info_fn
  have HE := Lib.hid h
  have HT := Lib.hid hT
  have HJ := Lib.hid hj
  have HL := Lib.hid hL
  clear h hT hj hL
  go_enter Tryd.func10, Tryd.ntmps10
  go_wp2_with (go_at_call 24; refine (faults_calls _ l c N _ HE.out hN HT.out hl).mono ?_; rintro e w5 ⟨p, cc, rfl, hr, hb⟩)
  have HR := Lib.hid hr
  have HB := Lib.hid hb
  have hb5 := hb.size
  clear hr hb
  go_loopw [3, 9] (fun u i wr => ∃ k : Nat, k ≤ l.length ∧ i = .int .i64 k ∧ SayAt w5 wr (tls (l.take k)) u) (fun _ i _ => l.length - (intOf i).toNat)
  case atStart => exact ⟨0, by omega, rfl, World.ownsRow_nil _ _ _ _, Below.refl _ _⟩
  case round =>
    obtain ⟨k, hk, rfl, C⟩ := hrel
    have hsz := C.below.size
    have hown := C.own
    by_cases hlt : k < l.length
    · have q1 : (k : Int) < (l.length : Int) := by omega
      rcases HR.out.cells with h0 | ⟨b, rfl, hbl, hc⟩
      · have := congrArg List.length h0; rw [pv_len, List.length_nil] at this; omega
      · have c0 := hc k (.pointer (some ⟨l[k].blk, 0, none⟩)) (by simp [pv, hlt])
        rw [← C.below.cell (p := ⟨b, k, none⟩) hbl] at c0
        have hbw : b < wr.heap.size := by omega
        have htk : l.take (k + 1) = l.take k ++ [l[k]] := List.take_succ_eq_append_getElem hlt
        obtain ⟨y, hy⟩ : ∃ y, l[k] = y := ⟨_, rfl⟩
        rw [hy] at c0 htk
        have htl : (tls (l.take k)).length ≤ 2000000 := by rw [tls_len, List.length_take]; omega
        have HC := Lib.hid C
        have HK := Lib.hid htk
        clear C htk hy hc
        go_wp2_with (at_builtin; refine Own.append_any rfl (.tmp 13) (.tmp 18) 54 rfl w5.heap.size 45 i0 _ 1 8 Tryd.underlying54 hi hz0 hz1 hz2 rfl (by decide) _ _ _ rfl (World.ownsRow.alloc hown _) _ 2 2 [tv (.plc y.blk), tv (.abt y.blk)] rfl (fun h => nomatch h) rfl (two_new _ _ _ _ _ (by simp)) (by simp [Value.oneCell', tv]) (by unfold maxLen; omega) (by omega) (by simp; omega) ?_; intro v' w1 hown1 hgrow1)
        have C1 := Lib.hid (HC.out.step (ts' := [(.plc y.blk, placeL y.line), (.abt y.blk, y.what)]) ((Below.refl _ _).alloc (Nat.le_refl _) _) rfl hown1 hgrow1)
        clear hown1 hgrow1 hown
        go_wp2_with fail
        go_roundw
        case rel => exact ⟨k + 1, by omega, by go_num, by rw [HK.out, tls_app]; exact C1.out⟩
        case measure => simp [intOf]; omega
    · obtain rfl : k = l.length := by omega
      rw [List.take_length] at C hown
      have hEr := HE.out.below (HB.out.trans (C.below.mono hb5)) hN
      have hTr := HT.out.below (HB.out.trans (C.below.mono hb5))
      have hNr : N ≤ wr.heap.size := by omega
      have htl : (tls l).length ≤ 2000000 := by rw [tls_len]; omega
      have HEr := Lib.hid hEr
      have HTr := Lib.hid hTr
      have HC := Lib.hid C
      clear C hEr hTr
      go_wp2_with (first
        | (go_at_call 8; refine (of_calls _ l c N _ HEr.out hNr HTr.out).mono ?_; rintro e w6 ⟨rfl, hb6⟩; have h6 := hb6.size; have ho6 := own_below hown hb6; have HB6 := Lib.hid hb6; clear hb6)
        | (at_builtin; refine Own.append_any rfl (.tmp 21) (.tmp 25) 54 rfl w5.heap.size 45 i0 _ 1 8 Tryd.underlying54 hi hz0 hz1 hz2 rfl (by decide) _ _ _ rfl (World.ownsRow.alloc ho6 _) _ 1 1 [tv (.knd c)] rfl (fun h => nomatch h) rfl (one_new _ _ _ _ (by simp)) (by simp [Value.oneCell', tv]) (by unfold maxLen; omega) (by omega) (by simp; omega) ?_; intro v' w1 hown1 hgrow1
           have C1 := HC.out.step (ts' := [(.knd c, wordL c)]) (HB6.out.alloc h6 _) rfl hown1 hgrow1
           obtain ⟨q, qc, rfl, hq⟩ := owns_row C1.own (tvs_len _).symm
           have HQ := Lib.hid hq
           have HC1 := Lib.hid C1.below
           have h1s := C1.below.size
           have hlen : (tls l ++ [(Tlr.knd c, wordL c)]).length = (tls l).length + 1 := by simp
           clear C1 hown1 hgrow1 ho6 hown hq))
      refine (join_at (tls l ++ [(Tlr.knd c, wordL c)]) _ _ N _ _ hlen HQ.out ?_ ?_ ?_ ?_ ?_).mono ?_
      · intro t ht
        rcases List.mem_append.1 ht with ht | ht
        · exact (tls_tells HE.out.at_ HL.out t ht).below (HB.out.trans (HC1.out.mono hb5)) hN
        · rw [List.mem_singleton] at ht; subst ht; exact ⟨c1, c2, rfl⟩
      · omega
      · exact HT.out.below (HB.out.trans (HC1.out.mono hb5))
      · rw [hlen]; omega
      · rw [List.map_append, tls_txt]; exact HJ.out
      rintro e w7 ⟨rfl, hb7⟩
      rw [List.map_append, tls_txt]
      have HB7 := Lib.hid hb7
      clear hb7
      go_wp2_with fail
      go_ret
      exact ⟨rfl, HB.out.trans ((HC1.out.trans (HB7.out.mono h1s)).mono hb5)⟩

theorem error_calls (b : Nat) (l : List Lay) (c : Int) (N : Nat) (w : World) (h : Err w N (.iface 41 (.pointer (some ⟨b, 0, none⟩))) l c) (hN : N ≤ w.heap.size) (hT : Tab w) (hl : l.length ≤ 1000000)
    (hL : ∀ x ∈ l, -9223372036854775808 ≤ x.line ∧ x.line ≤ 9223372036854775807) (c1 : -9223372036854775808 ≤ c) (c2 : c ≤ 9223372036854775807) (hj : (textL l c).length ≤ 140737488355328) :
    Calls Tryd.prog 19 #[.pointer (some ⟨b, 0, none⟩)] w fun e w' => e = .returned (.string ⟨(textL l c).toArray⟩) ∧ Below w.heap.size w w' := by
  have HE := Lib.hid h
  have HT := Lib.hid hT
  have HJ := Lib.hid hj
  have HL := Lib.hid hL
  clear h hT hj hL
  go_enter Tryd.func19, Tryd.ntmps19
  go_wp2_with (go_at_call 10; refine (text_calls _ l c N _ (.inr HE.out) hN HT.out hl HL.out c1 c2 HJ.out).mono ?_; rintro e w5 ⟨rfl, hb⟩; replace hb := Lib.hid hb)
  go_ret
  exact ⟨rfl, hb.out⟩
end Go.Proofs.YtpjjfcgebgejaaaDoor.Flt

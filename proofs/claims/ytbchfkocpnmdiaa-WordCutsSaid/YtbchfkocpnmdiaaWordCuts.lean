/-
  Layer 10 (word): the walk of the law of words.
-/
import Derived.Test.YtbchfkocpnmdiaaWordWorks
import Derived.WideShapes
namespace Go.Proofs.Ytbchfkocpnmdiaa.Word
open Go.RowKit Go.WideShapes Go.Proofs.Ytbchfkocpnmdiaa.Own Go.Proofs.Ytbchfkocpnmdiaa.Rw

/-- what came in, as a row of texts -/
theorem texts_open {H : Type} {enc : TypeId × Value → H} {v : Value} {w : World} (t : ∃ d p, DataW.Trod enc Try.prog w 0 (fun _ => true) true 26 v d p) (o : ∃ base, Value.okWide Try.prog w .any base 26 v) :
    ∃ ts p c, v = .slice p (ts : List Bs).length c ∧ Texts w p c ts := by
  obtain ⟨d, p, t⟩ := t
  obtain ⟨base, o⟩ := o
  obtain ⟨a, len, cap, rfl⟩ := okWide_slice Try.underlying26 o
  obtain ⟨n, E, hrow, hE⟩ := Own.args_strings Try.underlying26 Try.underlying9 (by kernel_rfl) t ⟨_, _, _, rfl⟩
  obtain ⟨a', cap', e, h1, h2, h3⟩ := hrow
  cases e
  have hs : ∀ i, i < len → ∃ l : Bs, E i 0 = str l := fun i hi => by
    obtain ⟨s, e, _⟩ := hE i hi
    exact ⟨s.data.toList, e⟩
  have hl : ∀ m, m ≤ len → ∃ ts : List Bs, ts.length = m ∧ ∀ i (hi : i < ts.length), E i 0 = str ts[i] := by
    intro m
    induction m with
    | zero => exact fun _ => ⟨[], rfl, fun i hi => by simp at hi⟩
    | succ m ih =>
      intro hm
      obtain ⟨ts, hl, ht⟩ := ih (by omega)
      obtain ⟨l, e⟩ := hs m (by omega)
      refine ⟨ts ++ [l], by simp [hl], fun i hi => ?_⟩
      by_cases him : i < ts.length
      · rw [List.getElem_append_left him]; exact ht i him
      · obtain rfl : i = m := by rw [List.length_append, List.length_singleton] at hi; omega
        rw [List.getElem_append_right (by omega)]
        simp [e]
  obtain ⟨ts, hlen, ht⟩ := hl len (Nat.le_refl _)
  subst hlen
  refine ⟨ts, a, cap, rfl, ⟨by rw [strs_len]; exact h1, h2, ?_⟩⟩
  rcases h3 with h3 | ⟨b, off, e, hb, hc⟩
  · exact .inl (by rw [List.eq_nil_of_length_eq_zero h3]; rfl)
  · refine .inr ⟨b, off, e, hb, fun i x hx => ?_⟩
    have hi : i < ts.length := by have := (List.getElem?_eq_some_iff.1 hx).1; rwa [strs_len] at this
    rw [strs_at hi] at hx
    have := hc i 0 hi (by omega)
    rw [Nat.mul_one, Nat.add_zero] at this
    rw [this, ht i hi]
    exact hx

theorem rcut_of (s : ByteArray) (hs : s.size ≤ 1000000) (ws : List Bs) (h : cut s.data.toList = ws) (w : World) : Calls Try.prog 15 #[.string s] w (TPost w ws) := by subst h; exact rcut_calls s hs w
theorem rsort_of (ts us : List Bs) (n : Nat) (hn : ts.length = n) (p : Option Addr) (c : Nat) (w : World) (h : Texts w p c ts) (hl : n ≤ 1000000) (he : srt ts = us) : Calls Try.prog 19 #[.slice p n c] w (TPost w us) := by subst hn he; exact rsort_calls ts p c w h hl
theorem rjoin_of (ts : List Bs) (l : List UInt8) (n : Nat) (hn : ts.length = n) (p : Option Addr) (c : Nat) (w : World) (h : Texts w p c ts) (hw : weight ts ≤ 1000000) (he : joinW ts = l) : Calls Try.prog 17 #[.slice p n c] w fun e w' => e = .returned (.string ⟨l.toArray⟩) ∧ w = w' := by subst hn he; exact rjoin_calls ts p c w h hw

structure Cx (w wr : World) (p : Option Addr) (c : Nat) (ts : List Bs) (p1 : Option Addr) (c1 : Nat) (cs : List Bs) : Prop where
  l : Texts wr p c ts
  cw : Texts wr p1 c1 cs
  below : Below w.heap.size w wr
theorem Cx.after {w wr w' : World} {p p1 : Option Addr} {c c1 : Nat} {ts cs : List Bs} (h : Cx w wr p c ts p1 c1 cs) (hb : Below wr.heap.size wr w') : Cx w w' p c ts p1 c1 cs := ⟨h.l.below hb, h.cw.below hb, h.below.trans (hb.mono h.below.size)⟩

set_option maxRecDepth 100000 in
set_option maxHeartbeats 4000000 in
theorem cuts_walk (s : ByteArray) (ts : List Bs) (p : Option Addr) (c : Nat) (hs0 : s.size ≤ 9223372036854775807) (w : World) (h : Texts w p c ts) :
    Calls Try.prog 5 #[.string s, .slice p ts.length c] w fun e w' => e = .returned (.bool true) ∧ Below w.heap.size w w' := by
  have hcap := h.cap
  have H := Lib.hid h
  clear h
  obtain ⟨n, hn⟩ : ∃ n, ts.length = n := ⟨_, rfl⟩
  have HN := Lib.hid hn
  rw [hn] at hcap ⊢
  clear hn
  have hmx : n ≤ 9223372036854775807 := by have := hcap.2; unfold maxLen at this; omega
  by_cases h1 : s.size ≤ 300
  · by_cases h2 : n ≤ 20
    · have hz : s.size ≤ 1000000 := by omega
      go_enter Try.func5, Try.ntmps5
      go_wp2_with fail
      go_loop [5] (fun i => ∃ k : Nat, k ≤ n ∧ i = .int .i64 k ∧ Hid (∀ j (hj : j < ts.length), j < k → ts[j].length ≤ 50)) (fun i => n - (intOf i).toNat)
      case atStart => exact ⟨0, by omega, rfl, fun j hj h => absurd h (by omega)⟩
      case round =>
        obtain ⟨k, hk, rfl, HS⟩ := hrel
        by_cases hlt : k < n
        · have hkt : k < ts.length := by rw [HN.out]; exact hlt
          rcases H.out.cells with h0 | ⟨b, o, rfl, hb, hc⟩
          · rw [h0] at hkt; simp at hkt
          · have c0 := hc k hkt
            obtain ⟨x, hx⟩ : ∃ x, ts[k] = x := ⟨_, rfl⟩
            rw [hx, str] at c0
            have HX := Lib.hid hx
            have s1 := size_mk x
            clear hc hx
            by_cases h50 : x.length ≤ 50
            · go_wp2_with fail
              go_round
              case rel =>
                refine ⟨k + 1, by omega, by go_num, fun j hj hjk => ?_⟩
                by_cases hjk' : j < k
                · exact HS.out j hj hjk'
                · obtain rfl : j = k := by omega
                  rw [HX.out]; exact h50
              case measure => simp [intOf]; omega
            · have h50' : 50 < x.length := by omega
              go_wp2_with (go_at_call 6; refine (works_calls _).mono ?_; rintro e w' ⟨rfl, hb⟩; have HB := Lib.hid hb; clear hb)
              go_ret
              exact ⟨rfl, HB.out⟩
        · have hlen : ∀ l ∈ ts, l.length ≤ 50 := fun l hl => by
            obtain ⟨j, hj, rfl⟩ := List.mem_iff_getElem.1 hl
            exact HS.out j hj (by have := HN.out; omega)
          have hwt : weight ts ≤ 1000000 := by
            have h3 := weight_le hlen
            have h4 : ts.length * (50 + 1) ≤ 20 * 51 := Nat.mul_le_mul (by rw [HN.out]; exact h2) (Nat.le_refl _)
            omega
          have HW := Lib.hid hwt
          obtain ⟨cs, hcs⟩ : ∃ cs, cut s.data.toList = cs := ⟨_, rfl⟩
          obtain ⟨us, hus⟩ : ∃ us, srt ts = us := ⟨_, rfl⟩
          obtain ⟨jl, hjl⟩ : ∃ jl, joinW cs = jl := ⟨_, rfl⟩
          obtain ⟨tl, htl⟩ : ∃ tl, joinW ts = tl := ⟨_, rfl⟩
          have hcw : weight cs ≤ 1000000 := by have := cut_weight s.data.toList; rw [hcs, size_list] at this; omega
          have hcl : cs.length ≤ 1000000 := Nat.le_trans (len_weight cs) hcw
          have hul : us.length ≤ 1000000 := by have := srt_len ts; rw [hus, HN.out] at this; omega
          have hjz : (⟨jl.toArray⟩ : ByteArray).size ≤ 1000000 := by rw [size_mk, ← hjl]; exact Nat.le_trans (join_weight cs) hcw
          have hja : cut (⟨jl.toArray⟩ : ByteArray).data.toList = cs := by rw [← hjl, ← hcs]; exact cut_again _
          have K1 := Lib.hid (cut_of s hz cs hcs)
          have K2 := Lib.hid (rcut_of s hz cs hcs)
          have K3 := Lib.hid (cut_of _ hjz cs hja)
          have HUS := Lib.hid hus
          have HJL := Lib.hid hjl
          have HTL := Lib.hid htl
          replace hcw := Lib.hid hcw
          clear hwt hcs hus hjl htl hjz hja hlen
          go_wp2_with fail
          refine (K1.out _).mono ?_
          rintro e w1 ⟨p1, c1, rfl, ht1, hb1⟩
          have E : Cx w w1 p c ts p1 c1 cs := ⟨H.out.below hb1, ht1, hb1⟩
          replace E := Lib.hid E
          clear ht1 hb1
          go_wp2_with fail
          refine (K2.out _).mono ?_
          rintro e w2 ⟨p2, c2, rfl, ht2, hb2⟩
          replace E := Lib.hid (E.out.after hb2)
          have HT2 := Lib.hid ht2
          clear ht2 hb2
          go_wp2_with fail
          refine (same_calls cs p1 p2 c1 c2 _ E.out.cw HT2.out hcl).mono ?_
          rintro e w3 ⟨rfl, hb3⟩
          replace E := Lib.hid (E.out.after hb3)
          clear hb3
          go_wp2_with fail
          refine (join_of cs jl _ rfl p1 c1 _ E.out.cw hcw.out HJL.out).mono ?_
          rintro e w4 ⟨rfl, hb4⟩
          replace E := Lib.hid (E.out.after hb4)
          clear hb4
          go_wp2_with fail
          refine (K3.out _).mono ?_
          rintro e w5 ⟨p5, c5, rfl, ht5, hb5⟩
          replace E := Lib.hid (E.out.after hb5)
          have HT5 := Lib.hid ht5
          clear ht5 hb5
          go_wp2_with fail
          refine (same_calls cs p5 p1 c5 c1 _ HT5.out E.out.cw hcl).mono ?_
          rintro e w6 ⟨rfl, hb6⟩
          replace E := Lib.hid (E.out.after hb6)
          clear hb6
          go_wp2_with fail
          refine (join_of ts tl n HN.out p c _ E.out.l HW.out HTL.out).mono ?_
          rintro e w7 ⟨rfl, hb7⟩
          replace E := Lib.hid (E.out.after hb7)
          clear hb7
          go_wp2_with fail
          refine (rjoin_of ts tl n HN.out p c _ E.out.l HW.out HTL.out).mono ?_
          rintro e w8 ⟨rfl, rfl⟩
          go_wp2_with fail
          refine (sort_of ts us n HN.out p c _ E.out.l (by omega) HUS.out).mono ?_
          rintro e w9 ⟨p9, c9, rfl, ht9, hb9⟩
          replace E := Lib.hid (E.out.after hb9)
          have HT9 := Lib.hid ht9
          clear ht9 hb9
          go_wp2_with fail
          refine (rsort_of ts us n HN.out p c _ E.out.l (by omega) HUS.out).mono ?_
          rintro e wa ⟨pa, ca, rfl, hta, hba⟩
          replace E := Lib.hid (E.out.after hba)
          have HTA := Lib.hid hta
          have HTB := Lib.hid (HT9.out.below hba)
          clear hta hba
          go_wp2_with fail
          refine (same_calls us p9 pa c9 ca _ HTB.out HTA.out hul).mono ?_
          rintro e wb ⟨rfl, hbb⟩
          replace E := Lib.hid (E.out.after hbb)
          clear hbb
          go_wp2_with fail
          refine (works_calls _).mono ?_
          rintro e wc ⟨rfl, hbc⟩
          replace E := Lib.hid (E.out.after hbc)
          clear hbc
          go_wp2_with fail
          go_ret
          exact ⟨rfl, E.out.below⟩
    · have h2' : 20 < n := by omega
      go_enter Try.func5, Try.ntmps5
      go_wp2_with (go_at_call 6; refine (works_calls _).mono ?_; rintro e w' ⟨rfl, hb⟩; have HB := Lib.hid hb; clear hb)
      go_ret
      exact ⟨rfl, HB.out⟩
  · have h1' : 300 < s.size := by omega
    go_enter Try.func5, Try.ntmps5
    go_wp2_with (go_at_call 6; refine (works_calls _).mono ?_; rintro e w' ⟨rfl, hb⟩; have HB := Lib.hid hb; clear hb)
    go_ret
    exact ⟨rfl, HB.out⟩

end Go.Proofs.Ytbchfkocpnmdiaa.Word

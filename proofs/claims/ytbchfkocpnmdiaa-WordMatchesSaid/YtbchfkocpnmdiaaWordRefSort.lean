/-
  Layer 10 (word): the document's own Sort, walked.
-/
import Derived.Test.YtbchfkocpnmdiaaWordRefCut
import Derived.Test.YtbchfkocpnmdiaaWordSortP
import Derived.Sort.Walk0
namespace Go.Proofs.Ytbchfkocpnmdiaa.Word
open Go.RowKit Go.Proofs.Ytbchfkocpnmdiaa.Own Go.Proofs.Ytbchfkocpnmdiaa.Rw

theorem strs_one (ts : List Bs) : ∀ u ∈ strs ts, u.oneCell' = true := by
  intro u hu
  obtain ⟨l, _, rfl⟩ := List.mem_map.1 hu
  rfl
theorem below_nil {wo wx w1 : World} {v : Value} (hb : Below wo.heap.size wo wx) (hg : wx.grownBy w1 v.ownBlock) (hv : v.ownBlock = none) : Below wo.heap.size wo w1 :=
  hb.grown hg hb.size (fun k hk => by rw [hv] at hk; cases hk)
theorem grown_row {wo wx wy w1 : World} {v : Value} {n : Nat} {e : TypeId} {xs : List Value} (ho : wx.ownsRow wo.heap.size e 1 v n xs) (hy : Below wo.heap.size wo wy) (hg : wy.grownBy w1 v.ownBlock) : Below wo.heap.size wo w1 :=
  hy.grown hg hy.size (fun k hk => (World.ownsRow.lt ho k hk).1)

/-- a row, cut in two -/
structure Halves (wo : World) (p : Option Addr) (n c k r : Nat) (xs ys : List Value) (p1 : Option Addr) (c1 : Nat) (p2 : Option Addr) (c2 : Nat) : Prop where
  s1 : ∀ W, (Instr.sliceAt 26 (.slice p n c) none (some (.int .i64 k)) none).run Try.prog W = .ok (.slice p1 k c1) W
  s2 : ∀ W, (Instr.sliceAt 26 (.slice p n c) (some (.int .i64 k)) none none).run Try.prog W = .ok (.slice p2 r c2) W
  q1 : p1 = none → k = 0 ∧ c1 = 0
  q2 : p2 = none → r = 0 ∧ c2 = 0
  h1 : ∀ w', Below wo.heap.size wo w' → ∀ ad, p1 = some ad → ∀ j u, xs[j]? = some u → w'.cell? (ad.add j) = some u
  h2 : ∀ w', Below wo.heap.size wo w' → ∀ ad, p2 = some ad → ∀ j u, ys[j]? = some u → w'.cell? (ad.add j) = some u
theorem own_halves {wo : World} {B n c k r : Nat} {p : Option Addr} {xs x1 x2 : List Value} (h : wo.ownsRow B 9 1 (.slice p n c) n xs) (hr : n = k + r) (e1 : x1 = xs.take k) (e2 : x2 = xs.drop k) : ∃ p1 c1 p2 c2, Halves wo p n c k r x1 x2 p1 c1 p2 c2 := by
  subst e1 e2
  have hel : Try.prog.elem 26 = 9 := by simp [Program.elem, Try.underlying26]
  have ht : Try.prog.underlying 26 = some (.slice (Try.prog.elem 26)) := by rw [hel]; exact Try.underlying26
  have hx : xs.length = n := by have := h.1; omega
  have r1 : ∀ (W : World) (hk : k ≤ c), (Instr.sliceAt 26 (.slice p n c) none (some (.int .i64 k)) none).run Try.prog W = .ok (sliced p 0 k c 1) W := by
    intro W hk
    rw [run_sliceAt_slice W _ _ _ _ _ ht, run_slice_h W _ _ _ _ ht .i64 k (by omega) (by omega), hel, Try.sizeOf9, Int.toNat_natCast]; rfl
  have r2 : ∀ (W : World), (Instr.sliceAt 26 (.slice p n c) (some (.int .i64 k)) none none).run Try.prog W = .ok (sliced p k n c 1) W := by
    intro W
    rw [run_sliceAt_slice W _ _ _ _ _ ht, run_slice_l W _ _ _ _ ht .i64 k (by omega) (by omega), hel, Try.sizeOf9, Int.toNat_natCast]; rfl
  rcases h.2 with ⟨e0, h0⟩ | ⟨g, cap, cur, e0, _, hh, h3, h4, h5, h6⟩
  · cases e0
    obtain rfl : k = 0 := by omega
    obtain rfl : r = 0 := by omega
    have hnil : xs = [] := List.eq_nil_of_length_eq_zero hx
    subst hnil
    exact ⟨none, 0, none, 0, fun W => by rw [r1 W (by omega)]; simp [sliced], fun W => by rw [r2 W]; simp [sliced], fun _ => ⟨rfl, rfl⟩, fun _ => ⟨rfl, rfl⟩, by rintro _ _ _ ⟨⟩, by rintro _ _ _ ⟨⟩⟩
  · cases e0
    have hlt := at_lt hh
    have hcell : ∀ w', Below wo.heap.size wo w' → ∀ j u, xs[j]? = some u → w'.cell? ⟨g, j, none⟩ = some u := fun w' hb j u hu => (hb.cell (p := ⟨g, j, none⟩) hlt).trans (own_cell h rfl hu)
    refine ⟨some ⟨g, 0, none⟩, c, some (if c = k then ⟨g, 0, none⟩ else ⟨g, k, none⟩), c - k, fun W => ?_, fun W => ?_, (fun h => nomatch h), (fun h => nomatch h), ?_, ?_⟩
    · rw [r1 W (by omega)]
      simp only [sliced, Option.map_some, Nat.zero_mul, Nat.sub_zero]
      split <;> simp [add0]
    · rw [r2 W]
      simp only [sliced, Option.map_some, Nat.mul_one, add0, show n - k = r by omega]
      split <;> rfl
    · rintro w' hb ad ⟨⟩ j u hu
      rw [add0]
      refine hcell w' hb j u ?_
      rw [List.getElem?_take] at hu
      split at hu
      · exact hu
      · cases hu
    · rintro w' hb ad ⟨⟩ j u hu
      have hj := (List.getElem?_eq_some_iff.1 hu).1
      rw [List.length_drop] at hj
      rw [if_neg (by omega)]
      have : (⟨g, k, none⟩ : Addr).add j = ⟨g, k + j, none⟩ := by cases j <;> simp [Addr.add]
      rw [this]
      rw [List.getElem?_drop] at hu
      exact hcell w' hb _ u hu

structure SortAt (w wr : World) (v : Value) (ts : List Bs) (i : Nat) (out : List Bs) : Prop where
  own : wr.ownsRow w.heap.size 9 1 v out.length (strs out)
  put : Put ts i out
  below : Below w.heap.size w wr
theorem SortAt.next {w wo w3 : World} {v v3 : Value} {ts : List Bs} {i k r : Nat} {out : List Bs} {x : Bs} (h : SortAt w wo v ts i out) (hi : i < ts.length) (hx : ts[i] = x) (hr : out.length = k + r)
    (hlow : ∀ j (hj : j < out.length), j < k → out[j] < x) (hhigh : ∀ _ : k < out.length, ¬ out[k] < x ∧ out[k] ≠ x)
    (hb : Below wo.heap.size wo w3) (ho : w3.ownsRow wo.heap.size 9 1 v3 (k + 1 + r) (strs (out.take k) ++ [.string ⟨x.toArray⟩] ++ strs (out.drop k))) : SortAt w w3 v3 ts (i + 1) (out.take k ++ [x] ++ out.drop k) := by
  subst hx
  refine ⟨?_, put_new h.put hi (by omega) hlow hhigh, h.below.trans (hb.mono h.below.size)⟩
  rw [show (out.take k ++ [ts[i]] ++ out.drop k).length = k + 1 + r by simp; omega, strs_app, strs_app]
  exact own_base ho h.below.size
theorem SortAt.same {w wo : World} {v : Value} {ts : List Bs} {i k : Nat} {out : List Bs} (h : SortAt w wo v ts i out) (hi : i < ts.length) (hk : k < out.length) (he : out[k] = ts[i]) : SortAt w wo v ts (i + 1) out :=
  ⟨h.own, put_same h.put hi hk he, h.below⟩
theorem SortAt.drew {w wo : World} {v : Value} {ts : List Bs} {i : Nat} {out : List Bs} (h : SortAt w wo v ts i out) {m : Nat} : SortAt w (wo.drewN m) v ts i out := ⟨h.own, h.put, below_drew h.below⟩
theorem less_b (a b : Bs) : Op.bytesLess a b = decide (a < b) := bytesLess_eq a b

set_option maxRecDepth 100000 in
set_option maxHeartbeats 4000000 in
theorem rsort_calls (ts : List Bs) (p : Option Addr) (c : Nat) (w : World) (h : Texts w p c ts) (hn : ts.length ≤ 1000000) : Calls Try.prog 19 #[.slice p ts.length c] w (TPost w (srt ts)) := by
  obtain ⟨i0, hi, hz0, hz1, hz2⟩ := info_parts info_string
  have H := Lib.hid h
  clear h
  obtain ⟨N, hN⟩ : ∃ N, ts.length = N := ⟨_, rfl⟩
  rw [hN] at hn ⊢
  go_enter Try.func19, Try.ntmps19
  go_wp2_with fail
  go_loopw [3, 4] (fun v i wr => ∃ (k : Nat) (out : List Bs), k ≤ N ∧ i = .int .i64 k ∧ SortAt w wr v ts k out) (fun _ i _ => N - (intOf i).toNat)
  case atStart => exact ⟨0, [], by omega, rfl, World.ownsRow_nil _ _ _ _, put_start ts, Below.refl _ _⟩
  case round =>
    rename World => wo
    obtain ⟨i, out, hiN, rfl, C⟩ := hrel
    have hlen := put_len C.put
    obtain ⟨pv, cv, rfl, hT⟩ := texts_own C.own rfl
    have hsz := C.below.size
    by_cases hlt : i < N
    · have hit : i < ts.length := by omega
      rcases (H.out.below C.below).cells with h0 | ⟨b', o', rfl, hlb, hd⟩
      · rw [h0] at hit; simp at hit
      · have d0 := hd i hit
        obtain ⟨x, hx⟩ : ∃ x, ts[i] = x := ⟨_, rfl⟩
        rw [hx, str] at d0
        obtain ⟨n, hnn⟩ : ∃ n, out.length = n := ⟨_, rfl⟩
        have hn1 : n ≤ 1000000 := by omega
        have hown := C.own
        rw [hnn] at hown
        have HC := Lib.hid C
        have HT := Lib.hid hT
        have HO := Lib.hid hown
        have HX := Lib.hid hx
        have HL := Lib.hid hnn
        rw [hnn]
        clear C hd hT hown hx hlen
        go_wp2_with fail
        go_loopw [5] (fun u wx => ∃ k m : Nat, k ≤ n ∧ u = .int .i64 k ∧ wx = wo.drewN m ∧ Hid (∀ j (hj : j < out.length), j < k → out[j] < x)) (fun u _ => n - (intOf u).toNat)
        case atStart => exact ⟨0, 0, by omega, rfl, rfl, fun j hj h => absurd h (by omega)⟩
        case round =>
          obtain ⟨k, m, hk, rfl, rfl, HLow⟩ := hrel
          by_cases hkn : k < n
          · have hko : k < out.length := by rw [hnn]; exact hkn
            rcases HT.out.cells with h0 | ⟨b, o, rfl, hlb2, hd⟩
            · rw [h0] at hko; simp at hko
            · have c0 := hd k hko
              obtain ⟨y, hy⟩ : ∃ y, out[k] = y := ⟨_, rfl⟩
              rw [hy, str] at c0
              have HY := Lib.hid hy
              have q1 : (k : Int) < (n : Int) := by omega
              have q2 : decide ((k : Int) < (n : Int)) = true := decide_eq_true q1
              have hl := less_b y x
              clear hd hy
              replace hnn := Lib.hid hnn
              by_cases hyx : y < x
              · rw [decide_eq_true hyx] at hl
                replace hyx := Lib.hid hyx
                go_wp2_with fail
                go_quiet (fail)
                go_wp2_with fail
                go_roundw
                case rel =>
                  refine ⟨k + 1, _, by omega, by go_num, rfl, fun j hj hjk => ?_⟩
                  by_cases hjk' : j < k
                  · exact HLow.out j hj hjk'
                  · obtain rfl : j = k := by omega
                    rw [HY.out]; exact hyx.out
                case measure => simp [intOf]; omega
              · rw [decide_eq_false hyx] at hl
                replace hyx := Lib.hid hyx
                by_cases hxe : y = x
                · have he : (y == x) = true := by simpa using hxe
                  have hS := (HC.out.same hit hko (by rw [HY.out, HX.out]; exact hxe))
                  rw [HL.out] at hS
                  have HS := Lib.hid hS
                  clear hS
                  replace hxe := Lib.hid hxe
                  go_wp2_with fail
                  go_quiet (fail)
                  go_wp2_with fail
                  go_quiet (fail)
                  go_wp2_with fail
                  go_roundw
                  case rel => exact ⟨i + 1, out, by omega, by go_num, by first | exact HS.out.drew | exact HS.out.drew.drew | exact HS.out.drew.drew.drew⟩
                  case measure => simp [intOf]; omega
                · have he : (y == x) = false := by simpa using hxe
                  replace hxe := Lib.hid hxe
                  obtain ⟨r, hr⟩ : ∃ r, n = k + r := ⟨n - k, by omega⟩
                  have hhigh : ∀ _ : k < out.length, ¬ out[k] < x ∧ out[k] ≠ x := (fun _ => by rw [HY.out]; exact ⟨hyx.out, hxe.out⟩)
                  obtain ⟨p1, c1, p2, c2, HV⟩ := own_halves HO.out hr (show strs (out.take k) = _ by simp [strs, List.map_take]) (show strs (out.drop k) = _ by simp [strs, List.map_drop])
                  have hs1 := HV.s1
                  have hs2 := HV.s2
                  have HQ1 := Lib.hid HV.q1
                  have HQ2 := Lib.hid HV.q2
                  have HC1 := Lib.hid HV.h1
                  have HC2 := Lib.hid HV.h2
                  replace hhigh := Lib.hid hhigh
                  replace hr := Lib.hid hr
                  have hr2 : k + r ≤ n := Nat.le_of_eq hr.out.symm
                  have hr3 : n ≤ k + r := Nat.le_of_eq hr.out
                  have ho2 : out.length ≤ n := Nat.le_of_eq HL.out
                  have ho3 : n ≤ out.length := Nat.le_of_eq HL.out.symm
                  clear HV
                  go_wp2_with fail
                  go_quiet (fail)
                  go_wp2_with fail
                  go_quiet (fail)
                  go_wp2_with (first
                    | (at_builtin; refine Own.append_any rfl (.tmp 45) (.tmp 48) 26 rfl wo.heap.size 9 i0 _ 1 16 Try.underlying26 hi hz0 hz1 hz2 rfl (by decide) _ _ _ rfl (World.ownsRow_nil _ _ _ _) p1 k c1 (strs (out.take k)) rfl HQ1.out (by rw [strs_len, List.length_take]; omega) (HC1.out _ (by first | exact below_drew (Below.refl _ _) | exact below_drew (below_drew (Below.refl _ _)) | exact below_drew (below_drew (below_drew (Below.refl _ _))))) (strs_one _) (by unfold maxLen; omega) (by omega) (by first | exact Nat.le_refl _ | exact hsw2 | (simp; omega)) ?_; intro v1 w1 hown1 hgrow1
                       have hb1 := below_nil (by first | exact below_drew (Below.refl _ _) | exact below_drew (below_drew (Below.refl _ _)) | exact below_drew (below_drew (below_drew (Below.refl _ _)))) (v := .slice none 0 0) hgrow1 rfl
                       have ho1 : w1.ownsRow wo.heap.size 9 1 v1 k (strs (out.take k)) := by simpa using hown1
                       have d1 := (hb1.cell (p := ⟨b', o' + i, none⟩) hlb).trans d0
                       have hsw1 := hb1.size
                       have HB1 := Lib.hid hb1
                       clear hown1 hgrow1 hb1)
                    | (at_builtin; refine Own.append_any rfl (.tmp 50) (.tmp 55) 26 rfl wo.heap.size 9 i0 _ 1 16 Try.underlying26 hi hz0 hz1 hz2 rfl (by decide) _ _ _ rfl (World.ownsRow.alloc ho1 _) _ 1 1 [.string ⟨x.toArray⟩] rfl (fun h => nomatch h) rfl (one_new _ _ _ _ (by simp)) (by simp [Value.oneCell']) (by unfold maxLen; omega) (by omega) (by first | exact Nat.le_refl _ | exact hsw2 | (simp; omega)) ?_; intro v1 w1 hown1 hgrow1
                       have hb2 := grown_row ho1 (HB1.out.alloc hsw1 _) hgrow1
                       have ho2 := hown1
                       have hsw2 := hb2.size
                       have HB2 := Lib.hid hb2
                       clear hown1 hgrow1 hb2)
                    | (at_builtin; refine Own.append_any rfl (.tmp 57) (.tmp 60) 26 rfl wo.heap.size 9 i0 _ 1 16 Try.underlying26 hi hz0 hz1 hz2 rfl (by decide) _ _ _ rfl ho2 p2 r c2 (strs (out.drop k)) rfl HQ2.out (by rw [strs_len, List.length_drop]; omega) (HC2.out _ HB2.out) (strs_one _) (by unfold maxLen; omega) (by omega) (by first | exact Nat.le_refl _ | exact hsw2 | (simp; omega)) ?_; intro v1 w1 hown1 hgrow1
                       have hb3 := grown_row ho2 HB2.out hgrow1
                       have HB3 := Lib.hid hb3
                       have HO3 := Lib.hid hown1
                       clear hown1 hgrow1 hb3))
                  go_roundw
                  case rel => exact ⟨i + 1, out.take k ++ [x] ++ out.drop k, by omega, by go_num, HC.out.next hit HX.out (by rw [HL.out]; exact hr.out) HLow.out hhigh.out HB3.out HO3.out⟩
                  case measure => simp [intOf]; omega
          · have q1 : ¬ ((k : Int) < (n : Int)) := by omega
            have q2 : decide ((k : Int) < (n : Int)) = false := decide_eq_false q1
            replace hkn := Lib.hid hkn
            have hkn2 := hkn.out
            obtain ⟨r, hr⟩ : ∃ r, n = k + r := ⟨n - k, by omega⟩
            have hhigh : ∀ _ : k < out.length, ¬ out[k] < x ∧ out[k] ≠ x := (fun h => absurd (by rw [HL.out] at h; exact h) hkn.out)
            obtain ⟨p1, c1, p2, c2, HV⟩ := own_halves HO.out hr (show strs (out.take k) = _ by simp [strs, List.map_take]) (show strs (out.drop k) = _ by simp [strs, List.map_drop])
            have hs1 := HV.s1
            have hs2 := HV.s2
            have HQ1 := Lib.hid HV.q1
            have HQ2 := Lib.hid HV.q2
            have HC1 := Lib.hid HV.h1
            have HC2 := Lib.hid HV.h2
            replace hhigh := Lib.hid hhigh
            replace hr := Lib.hid hr
            have hr2 : k + r ≤ n := Nat.le_of_eq hr.out.symm
            have hr3 : n ≤ k + r := Nat.le_of_eq hr.out
            have ho2 : out.length ≤ n := Nat.le_of_eq HL.out
            have ho3 : n ≤ out.length := Nat.le_of_eq HL.out.symm
            clear HV
            go_wp2_with fail
            go_quiet (fail)
            go_wp2_with fail
            go_quiet (fail)
            go_wp2_with (first
              | (at_builtin; refine Own.append_any rfl (.tmp 45) (.tmp 48) 26 rfl wo.heap.size 9 i0 _ 1 16 Try.underlying26 hi hz0 hz1 hz2 rfl (by decide) _ _ _ rfl (World.ownsRow_nil _ _ _ _) p1 k c1 (strs (out.take k)) rfl HQ1.out (by rw [strs_len, List.length_take]; omega) (HC1.out _ (by first | exact below_drew (Below.refl _ _) | exact below_drew (below_drew (Below.refl _ _)) | exact below_drew (below_drew (below_drew (Below.refl _ _))))) (strs_one _) (by unfold maxLen; omega) (by omega) (by first | exact Nat.le_refl _ | exact hsw2 | (simp; omega)) ?_; intro v1 w1 hown1 hgrow1
                 have hb1 := below_nil (by first | exact below_drew (Below.refl _ _) | exact below_drew (below_drew (Below.refl _ _)) | exact below_drew (below_drew (below_drew (Below.refl _ _)))) (v := .slice none 0 0) hgrow1 rfl
                 have ho1 : w1.ownsRow wo.heap.size 9 1 v1 k (strs (out.take k)) := by simpa using hown1
                 have d1 := (hb1.cell (p := ⟨b', o' + i, none⟩) hlb).trans d0
                 have hsw1 := hb1.size
                 have HB1 := Lib.hid hb1
                 clear hown1 hgrow1 hb1)
              | (at_builtin; refine Own.append_any rfl (.tmp 50) (.tmp 55) 26 rfl wo.heap.size 9 i0 _ 1 16 Try.underlying26 hi hz0 hz1 hz2 rfl (by decide) _ _ _ rfl (World.ownsRow.alloc ho1 _) _ 1 1 [.string ⟨x.toArray⟩] rfl (fun h => nomatch h) rfl (one_new _ _ _ _ (by simp)) (by simp [Value.oneCell']) (by unfold maxLen; omega) (by omega) (by first | exact Nat.le_refl _ | exact hsw2 | (simp; omega)) ?_; intro v1 w1 hown1 hgrow1
                 have hb2 := grown_row ho1 (HB1.out.alloc hsw1 _) hgrow1
                 have ho2 := hown1
                 have hsw2 := hb2.size
                 have HB2 := Lib.hid hb2
                 clear hown1 hgrow1 hb2)
              | (at_builtin; refine Own.append_any rfl (.tmp 57) (.tmp 60) 26 rfl wo.heap.size 9 i0 _ 1 16 Try.underlying26 hi hz0 hz1 hz2 rfl (by decide) _ _ _ rfl ho2 p2 r c2 (strs (out.drop k)) rfl HQ2.out (by rw [strs_len, List.length_drop]; omega) (HC2.out _ HB2.out) (strs_one _) (by unfold maxLen; omega) (by omega) (by first | exact Nat.le_refl _ | exact hsw2 | (simp; omega)) ?_; intro v1 w1 hown1 hgrow1
                 have hb3 := grown_row ho2 HB2.out hgrow1
                 have HB3 := Lib.hid hb3
                 have HO3 := Lib.hid hown1
                 clear hown1 hgrow1 hb3))
            go_roundw
            case rel => exact ⟨i + 1, out.take k ++ [x] ++ out.drop k, by omega, by go_num, HC.out.next hit HX.out (by rw [HL.out]; exact hr.out) HLow.out hhigh.out HB3.out HO3.out⟩
            case measure => simp [intOf]; omega
    · have hie : i = ts.length := by omega
      have HE := Lib.hid (put_end C.put hie)
      have HT := Lib.hid hT
      have HB := Lib.hid C.below
      clear C hT hie
      go_wp2_with fail
      go_ret
      exact ⟨pv, cv, by rw [← HE.out]; rfl, by rw [← HE.out]; exact HT.out, HB.out⟩

end Go.Proofs.Ytbchfkocpnmdiaa.Word

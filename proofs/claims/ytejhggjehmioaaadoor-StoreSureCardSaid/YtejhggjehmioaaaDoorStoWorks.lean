/-
  Layer 11 (store): the law's example, walked. Written by gen_stoworks.py.
-/
import Derived.Test.YtejhggjehmioaaaDoorStoErrs
namespace Go.Proofs.YtejhggjehmioaaaDoor.Sto
open Go.RowKit Go.Proofs.YtejhggjehmioaaaDoor.Own Go.Proofs.YtejhggjehmioaaaDoor.KM Go.Proofs.YtejhggjehmioaaaDoor.Flt
open Go.Proofs.YtejhggjehmioaaaDoor.Rw (str strs Row1)

theorem keep_new (w : World) (n : Int) (h1 : -9223372036854775808 ≤ n) (h2 : n ≤ 9223372036854775807) (bs : Nat → Prop) (hb : ∀ k, bs k → k < w.heap.size) : Keep (w.alloc (.cells #[.int .i64 n] 3 (0, 0))) bs (some ⟨w.heap.size, 0, none⟩) 1 [n] := by
  refine ⟨⟨Nat.le_refl _, by unfold maxLen; omega, .inr ⟨_, 0, rfl, by simp, fun i x hx => ?_⟩⟩, fun k hk => by simp at hk; omega, .inr fun g o e hg => ?_⟩
  · rw [at_cell (at_new w _)]
    rw [Nat.zero_add]
    simpa [iv] using hx
  · cases e
    have := hb _ hg
    omega
theorem eq_a1 : appT ⟨[], 10, 0⟩ [120] [97, 98, 99] = ⟨[⟨[120], [97, 98, 99], 0⟩], 10, 0⟩ ∧ appC ⟨[], 10, 0⟩ [120] [97, 98, 99] = 0 := by constructor <;> rfl
theorem eq_a2 : synT ⟨[⟨[120], [97, 98, 99], 0⟩], 10, 0⟩ [120] = ⟨[⟨[120], [97, 98, 99], 3⟩], 10, 0⟩ ∧ synC ⟨[⟨[120], [97, 98, 99], 0⟩], 10, 0⟩ [120] = 0 := by constructor <;> rfl
theorem eq_a3 : appT ⟨[⟨[120], [97, 98, 99], 3⟩], 10, 0⟩ [120] [100, 101, 102, 103] = ⟨[⟨[120], [97, 98, 99, 100, 101, 102, 103], 3⟩], 10, 0⟩ ∧ appC ⟨[⟨[120], [97, 98, 99], 3⟩], 10, 0⟩ [120] [100, 101, 102, 103] = 0 := by constructor <;> rfl
theorem eq_a4 : appT ⟨[⟨[120], [97, 98, 99, 100, 101, 102, 103], 3⟩], 10, 0⟩ [120] [49, 50, 51, 52, 53] = ⟨[⟨[120], [97, 98, 99, 100, 101, 102, 103], 3⟩], 10, 0⟩ ∧ appC ⟨[⟨[120], [97, 98, 99, 100, 101, 102, 103], 3⟩], 10, 0⟩ [120] [49, 50, 51, 52, 53] = 6 := by constructor <;> rfl
theorem eq_a6 : appT ⟨[⟨[120], [97, 98, 99, 100, 101, 102, 103], 3⟩], 10, 1⟩ [120] [122] = ⟨[⟨[120], [97, 98, 99, 100, 101, 102, 103], 3⟩], 10, 0⟩ ∧ appC ⟨[⟨[120], [97, 98, 99, 100, 101, 102, 103], 3⟩], 10, 1⟩ [120] [122] = 12 := by constructor <;> rfl
theorem eq_a7 : renT ⟨[⟨[120], [97, 98, 99, 100, 101, 102, 103], 3⟩], 10, 0⟩ [120] [121] = ⟨[⟨[121], [97, 98, 99, 100, 101, 102, 103], 3⟩], 10, 0⟩ ∧ renC ⟨[⟨[120], [97, 98, 99, 100, 101, 102, 103], 3⟩], 10, 0⟩ [120] [121] = 0 := by constructor <;> rfl
theorem eq_a9 : crs ⟨[⟨[121], [97, 98, 99, 100, 101, 102, 103], 3⟩], 10, 0⟩ [2] = ⟨[⟨[121], [97, 98, 99, 100, 101], 5⟩], 10, 0⟩ := by rfl
theorem eq_b1 : synT ⟨[⟨[121], [97, 98, 99, 100, 101], 5⟩], 10, 0⟩ [120] = ⟨[⟨[121], [97, 98, 99, 100, 101], 5⟩], 10, 0⟩ ∧ synC ⟨[⟨[121], [97, 98, 99, 100, 101], 5⟩], 10, 0⟩ [120] = 7 := by constructor <;> rfl
theorem eq_b2 : appT ⟨[⟨[121], [97, 98, 99, 100, 101], 5⟩], 10, 0⟩ [97, 47, 98] [] = ⟨[⟨[121], [97, 98, 99, 100, 101], 5⟩], 10, 0⟩ ∧ appC ⟨[⟨[121], [97, 98, 99, 100, 101], 5⟩], 10, 0⟩ [97, 47, 98] [] = 1 := by constructor <;> rfl

theorem w_app {w0 w : World} {bs : Nat → Prop} {b : Nat} {t : St} {es : List Told} (h : Wk w0 w bs b t es) (a s : ByteArray) (hs : s.size ≤ 1000) {t' : St} {c : Int} (he : appT t a.data.toList s.data.toList = t' ∧ appC t a.data.toList s.data.toList = c) :
    Calls Tryd.prog 11 #[pb b, .string a, .string s] w fun e w' => DoesE w bs e w' b t' c := by
  have := sto_app h.sto a s (by omega)
  rwa [he.1, he.2] at this
theorem w_syn {w0 w : World} {bs : Nat → Prop} {b : Nat} {t : St} {es : List Told} (h : Wk w0 w bs b t es) (a : ByteArray) {t' : St} {c : Int} (he : synT t a.data.toList = t' ∧ synC t a.data.toList = c) :
    Calls Tryd.prog 20 #[pb b, .string a] w fun e w' => DoesE w bs e w' b t' c := by
  have := sto_syn h.sto a
  rwa [he.1, he.2] at this
theorem w_ren {w0 w : World} {bs : Nat → Prop} {b : Nat} {t : St} {es : List Told} (h : Wk w0 w bs b t es) (a d : ByteArray) {t' : St} {c : Int} (he : renT t a.data.toList d.data.toList = t' ∧ renC t a.data.toList d.data.toList = c) :
    Calls Tryd.prog 21 #[pb b, .string a, .string d] w fun e w' => DoesE w bs e w' b t' c := by
  have := sto_ren h.sto a d
  rwa [he.1, he.2] at this
theorem w_crash {w0 w : World} {bs : Nat → Prop} {b : Nat} {t : St} {es : List Told} (h : Wk w0 w bs b t es) (hl : t.L.length ≤ 1000000) (n : Int) (h1 : -9223372036854775808 ≤ n) (h2 : n ≤ 9223372036854775807) {t' : St} (he : crs t [n] = t') :
    Calls Tryd.prog 12 #[pb b, .slice (some ⟨w.heap.size, 0, none⟩) 1 1] (w.alloc (.cells #[.int .i64 n] 3 (0, 0))) fun e w' => e = .returned (.tuple #[]) ∧ ∃ bs', Wk w0 w' bs' b t' es := by
  have hb := (Below.refl w.heap.size w).alloc (Nat.le_refl _) (.cells #[.int .i64 n] 3 (0, 0))
  have := sto_crash (h.same hb).sto hl (keep_new w n h1 h2 bs h.sto.all)
  rw [he] at this
  exact this.mono fun e w' ⟨h1, h2⟩ => ⟨h1, (h.same hb).does h2⟩

set_option maxRecDepth 100000 in
set_option maxHeartbeats 16000000 in
theorem works_walk (w : World) (hT : Tab w) : Calls Tryd.prog 7 #[] w fun e w' => e = .returned (.bool true) ∧ Below w.heap.size w w' := by
  have HT := Lib.hid (fun W (hb : Below w.heap.size w W) => hT.below hb)
  clear hT
  go_enter Tryd.func7, Tryd.ntmps7
  go_wp2_with fail
  refine (new_in 10 (by omega) (by omega) _).mono ?_
  rintro e w1 ⟨b, rfl, bs1, s1, hb1, hn1⟩
  have W1 := Lib.hid (show Wk w w1 bs1 b ⟨[], 10, 0⟩ [] from ⟨hb1, s1, hn1, fun x hx => by cases hx⟩)
  clear s1 hb1 hn1
  go_wp2_with fail
  refine (new_out 0 (by omega) _).mono ?_
  rintro e w2 ⟨rfl, rfl⟩
  have W2 := Lib.hid (show Wk w (w1.alloc (fblk 2)) bs1 b ⟨[], 10, 0⟩ [⟨errv w1, 2, w1.heap.size⟩] from by
    have h := W1.out.same ((Below.refl _ w1).alloc (Nat.le_refl _) (fblk 2))
    refine ⟨h.below, h.sto, h.mine, fun x hx => ?_⟩
    simp only [List.mem_singleton] at hx
    subst hx
    exact ⟨.inr ⟨(show (2 : Int) ≠ 0 by decide), rfl, at_new _ _⟩, fun hk => Nat.lt_irrefl _ (show w1.heap.size < w1.heap.size from W1.out.sto.all _ hk), (show (2 : Int) ≠ 0 by decide)⟩)
  obtain ⟨k2, hk2⟩ : ∃ k, w1.heap.size = k := ⟨_, rfl⟩
  obtain ⟨V2, hV2⟩ : ∃ V, w1.alloc (fblk 2) = V := ⟨_, rfl⟩
  unfold errv at W2 ⊢
  rw [hk2, hV2] at W2
  rw [hk2, hV2]
  clear hk2 hV2 W1
  go_wp2_with fail
  refine (w_app W2.out ⟨#[120]⟩ ⟨#[97, 98, 99]⟩ (by decide) eq_a1).mono ?_
  intro e V3 hd
  obtain ⟨rfl, bs3, hw⟩ := W2.out.ok hd
  have W3 := Lib.hid hw
  clear hd hw W2
  go_wp2_with fail
  refine (w_syn W3.out ⟨#[120]⟩ eq_a2).mono ?_
  intro e V4 hd
  obtain ⟨rfl, bs4, hw⟩ := W3.out.ok hd
  have W4 := Lib.hid hw
  clear hd hw W3
  go_wp2_with fail
  refine (w_app W4.out ⟨#[120]⟩ ⟨#[100, 101, 102, 103]⟩ (by decide) eq_a3).mono ?_
  intro e V5 hd
  obtain ⟨rfl, bs5, hw⟩ := W4.out.ok hd
  have W5 := Lib.hid hw
  clear hd hw W4
  go_wp2_with fail
  refine (w_app W5.out ⟨#[120]⟩ ⟨#[49, 50, 51, 52, 53]⟩ (by decide) eq_a4).mono ?_
  intro e V6 hd
  obtain ⟨kd, bs6, rfl, hw⟩ := W5.out.err (by decide) hd
  have W6 := Lib.hid hw
  clear hd hw W5
  go_wp2_with fail
  refine (sto_fail W6.out.sto 1 (by omega)).mono ?_
  rintro e V7 ⟨rfl, hs, ho⟩
  have W7 := Lib.hid (W6.out.go hs ho (fun k hk => .inl hk))
  clear hs ho W6
  go_wp2_with fail
  refine (w_app W7.out ⟨#[120]⟩ ⟨#[122]⟩ (by decide) eq_a6).mono ?_
  intro e V8 hd
  obtain ⟨kf, bs8, rfl, hw⟩ := W7.out.err (by decide) hd
  have W8 := Lib.hid hw
  clear hd hw W7
  go_wp2_with fail
  refine (w_ren W8.out ⟨#[120]⟩ ⟨#[121]⟩ eq_a7).mono ?_
  intro e V9 hd
  obtain ⟨rfl, bs9, hw⟩ := W8.out.ok hd
  have W9 := Lib.hid hw
  clear hd hw W8
  go_wp2_with fail
  refine (sto_size W9.out.sto ⟨#[121]⟩ (by decide)).mono ?_
  rintro e V10 ⟨rfl, hb⟩
  have W10 := Lib.hid (W9.out.same hb)
  clear hb W9
  go_wp2_with fail
  refine (w_crash W10.out (by decide) 2 (by omega) (by omega) eq_a9).mono ?_
  rintro e V11 ⟨rfl, bs11, hw⟩
  have W11 := Lib.hid hw
  clear hw W10
  go_wp2_with fail
  refine (sto_read W11.out.sto ⟨#[121]⟩ (by decide)).mono ?_
  rintro e V12 ⟨rfl, hb⟩
  have W12 := Lib.hid (W11.out.same hb)
  clear hb W11
  go_wp2_with fail
  refine (of_told (W12.out.errs ⟨.iface 126 (.pointer (some ⟨k2, 0, none⟩)), 2, k2⟩ (by simp)).1 (HT.out _ W12.out.below)).mono ?_
  rintro e V13 ⟨rfl, hb⟩
  have W13 := Lib.hid (W12.out.same hb)
  clear hb W12
  go_wp2_with fail
  refine (has_told (W13.out.errs ⟨.iface 126 (.pointer (some ⟨kd, 0, none⟩)), 6, kd⟩ (by simp)).1 6).mono ?_
  rintro e V14 ⟨rfl, rfl⟩
  have W14 := W13
  clear W13
  go_wp2_with fail
  refine (of_told (W14.out.errs ⟨.iface 126 (.pointer (some ⟨kf, 0, none⟩)), 12, kf⟩ (by simp)).1 (HT.out _ W14.out.below)).mono ?_
  rintro e V15 ⟨rfl, hb⟩
  have W15 := Lib.hid (W14.out.same hb)
  clear hb W14
  go_wp2_with fail
  refine (w_syn W15.out ⟨#[120]⟩ eq_b1).mono ?_
  intro e V16 hd
  obtain ⟨k7, bs16, rfl, hw⟩ := W15.out.err (by decide) hd
  have W16 := Lib.hid hw
  clear hd hw W15
  go_wp2_with fail
  refine (of_told (W16.out.errs ⟨.iface 126 (.pointer (some ⟨k7, 0, none⟩)), 7, k7⟩ (by simp)).1 (HT.out _ W16.out.below)).mono ?_
  rintro e V17 ⟨rfl, hb⟩
  have W17 := Lib.hid (W16.out.same hb)
  clear hb W16
  go_wp2_with fail
  refine (w_app W17.out ⟨#[97, 47, 98]⟩ ⟨#[]⟩ (by decide) eq_b2).mono ?_
  intro e V18 hd
  obtain ⟨k8, bs18, rfl, hw⟩ := W17.out.err (by decide) hd
  have W18 := Lib.hid hw
  clear hd hw W17
  go_wp2_with fail
  refine (of_told (W18.out.errs ⟨.iface 126 (.pointer (some ⟨k8, 0, none⟩)), 1, k8⟩ (by simp)).1 (HT.out _ W18.out.below)).mono ?_
  rintro e V19 ⟨rfl, hb⟩
  have W19 := Lib.hid (W18.out.same hb)
  clear hb W18
  go_wp2_with fail
  refine (sto_total W19.out.sto).mono ?_
  rintro e V20 ⟨rfl, rfl⟩
  have W20 := W19
  clear W19
  go_wp2_with fail
  go_ret
  exact ⟨rfl, W20.out.below⟩
end Go.Proofs.YtejhggjehmioaaaDoor.Sto

/-
  Layer 11 (store): the law's acts: Fail, Crash; all.
-/
import Derived.Test.YtejhggjehmioaaaDoorStoDo2
import Derived.Test.YtejhggjehmioaaaDoorStoDo3
import Derived.Test.YtejhggjehmioaaaDoorStoDo4
import Derived.Test.YtejhggjehmioaaaDoorStoRefCrash
namespace Go.Proofs.YtejhggjehmioaaaDoor.Sto
open Go.RowKit Go.Proofs.YtejhggjehmioaaaDoor.Own Go.Proofs.YtejhggjehmioaaaDoor.KM Go.Proofs.YtejhggjehmioaaaDoor.Flt
open Go.Proofs.YtejhggjehmioaaaDoor.Rw (str strs Row1 below_drew)

theorem do_fin2 {w w1 w' : World} {bs bs' : Nat → Prop} {b : Nat} {T : St} {p p' : Option Addr} {c' : Nat} {e : Ending} (hall : ∀ k, bs k → k < w.heap.size) (ho : Out bs w w1) (S1 : Sto w1 bs' b T) (hn : ∀ k, bs' k → bs k ∨ w.heap.size + 2 < k) (oZ : Out (fun k => k = w.heap.size ∨ k = w.heap.size + 1 + 1) w1 w')
    (F : Fs w1 p' c' T.L) (far : ∀ g o, p' = some ⟨g, o, none⟩ → ¬ bs' g ∧ g < w1.heap.size ∧ g ≠ w.heap.size ∧ g ≠ w.heap.size + 1 + 1) (hpp : p' = p ∨ ∀ g o, p' = some ⟨g, o, none⟩ → w.heap.size ≤ g) (he : e = .returned (.tuple #[rv p' T.L.length c' T.most (max 0 T.bad), .bool true])) : DoPost w bs b p T e w' := by
  have hz : ∀ k, bs' k → k ≠ w.heap.size ∧ k ≠ w.heap.size + 1 + 1 := fun k hk => by
    rcases hn k hk with h | h
    · have := hall k h; omega
    · omega
  refine ⟨bs', p', c', he, S1.out oZ (fun k hk h => h.elim (hz k hk).1 (hz k hk).2), ?_, ?_, ?_, ?_, hpp⟩
  · exact ho.trans oZ (fun i hi h => by rcases h with h | h <;> omega)
  · intro k hk
    rcases hn k hk with h | h
    · exact .inl h
    · right; omega
  · exact F.out oZ (fun g o e h => h.elim (far g o e).2.2.1 (far g o e).2.2.2)
  · intro g o e
    obtain ⟨a1, a2, a3⟩ := far g o e
    exact ⟨a1, Nat.lt_of_lt_of_le a2 oZ.size⟩
theorem out_z {w w1 w' : World} (h : Out (fun k => k = w.heap.size ∨ k = w.heap.size + 1 + 1) w1 w') (x y z : Value) :
    Out (fun k => k = w.heap.size ∨ k = w.heap.size + 1 + 1) w1 (((w'.setCell ⟨w.heap.size + 1 + 1, 0, none⟩ x).setCell ⟨w.heap.size + 1 + 1, 1, none⟩ y).setCell ⟨w.heap.size + 1 + 1, 2, none⟩ z) :=
  ((h.setCell (p := ⟨_, 0, none⟩) (fun _ => .inr rfl) x).setCell (p := ⟨_, 1, none⟩) (fun _ => .inr rfl) y).setCell (p := ⟨_, 2, none⟩) (fun _ => .inr rfl) z
set_option maxRecDepth 100000 in
set_option maxHeartbeats 8000000 in
theorem do_fail {w0 w : World} {bs : Nat → Prop} {b : Nat} {t : St} {p : Option Addr} {c : Nat} (P : Pair w0 w bs b t p c) (n : Nat) (hn : t.L.length = n) (a d s : ByteArray)
    (k m : Int) (h0 : 0 ≤ k) (h1 : k ≤ 255) (hm : -9223372036854775808 ≤ m ∧ m ≤ 9223372036854775807) (hk : k % 8 = 5) (q : Option Addr) (K cq : Nat) :
    Calls Tryd.prog 13 #[pb b, rv p n c t.most (max 0 t.bad), .agg #[.int .u8 k, .string a, .string d, .string s, .int .i64 m, .slice q K cq]] w (DoPost w bs b p ⟨t.L, t.most, m⟩) := by
  have hP := Lib.hid P
  obtain ⟨most, hmost⟩ : ∃ x, t.most = x := ⟨_, rfl⟩
  obtain ⟨bd, hbd⟩ : ∃ x, max 0 t.bad = x := ⟨_, rfl⟩
  obtain ⟨m2, hm2⟩ : ∃ x, max 0 m = x := ⟨_, rfl⟩
  have hPr : Hid (∀ W, Sto W bs b t → Calls Tryd.prog 18 #[pb b, .int .i64 m] W fun e w' => e = .returned (.tuple #[]) ∧ Sto w' bs b ⟨t.L, t.most, m⟩ ∧ Out bs W w') := Lib.hid fun W hW => sto_fail hW m hm
  have hall := Lib.hid P.sto.all
  have A0 := Lib.hid (DoA.start w (.slice p n c) (.int .i64 most) (.int .i64 bd) (.int .u8 k) (.string a) (.string d) (.string s) (.int .i64 m) (.slice q K cq))
  have B0 := Lib.hid ((((Below.refl w.heap.size w).alloc (Nat.le_refl _) (.cells #[.slice p n c, .int .i64 most, .int .i64 bd] 33 (0, 0))).alloc (by simp) (.cells #[.int .u8 k, .string a, .string d, .string s, .int .i64 m, .slice q K cq] 36 (0, 0))).alloc (by simp; omega) (.cells #[.slice none 0 0, .int .i64 0, .int .i64 0] 33 (0, 0)))
  have HD := Lib.hid (And.intro hn hm2)
  rw [hmost, hbd]
  have HM := Lib.hid hmost
  clear P hm hmost hbd hn
  go_enter Tryd.func13, Tryd.ntmps13
  go_wp2_with fail
  refine (hPr.out _ (hP.out.sto.below B0.out)).mono ?_
  rintro e w1 ⟨rfl, S1, O1⟩
  have A1 := Lib.hid (A0.out.out O1 hall.out)
  have O2 : Hid (Out bs w w1) := Lib.hid ((Out.ofNew B0.out).trans O1 (fun _ _ h => h))
  have HS := Lib.hid S1
  clear S1 O1 hPr
  have n0 := (at_cell A1.out.b4 0 : _ = some _)
  have n1 := (at_cell A1.out.b4 1 : _ = some _)
  have n2 := (at_cell A1.out.b4 2 : _ = some _)
  have nf2 := at_frozen A1.out.b4 2
  have c4 := (at_cell A1.out.b5 4 : _ = some _)
  have m0 := (at_cell A1.out.b6 0 : _ = some _)
  have m1 := (at_cell A1.out.b6 1 : _ = some _)
  have m2' := (at_cell A1.out.b6 2 : _ = some _)
  have mf0 := at_frozen A1.out.b6 0
  have mf1 := at_frozen A1.out.b6 1
  have mf2 := at_frozen A1.out.b6 2
  go_wp2_with fail
  refine bodyPost_ret (v := .tuple #[rv p n c most m2, .bool true]) ?_ rfl ?_
  · simp [results, Tryd.results13, go_sem, *]
  · rw [← HM.out]
    refine do_fin2 hall.out O2.out (by rw [HM.out] at *; exact HS.out) (fun k hk => .inl hk) (out_z ((Out.refl _ w1).setCell (p := ⟨w.heap.size, 2, none⟩) (fun _ => .inl rfl) _) _ _ _) (hP.out.fs.out O2.out fun g o e => (hP.out.far g o e).1) (fun g o e => ?_) (.inl rfl) (by rw [HD.out.1, HD.out.2])
    obtain ⟨a1, a2⟩ := hP.out.far g o e
    exact ⟨a1, Nat.lt_of_lt_of_le a2 O2.out.size, by omega, by omega⟩

set_option maxRecDepth 100000 in
set_option maxHeartbeats 8000000 in
theorem do_crash {w0 w : World} {bs : Nat → Prop} {b : Nat} {t : St} {p : Option Addr} {c : Nat} (P : Pair w0 w bs b t p c) (n : Nat) (hn : t.L.length = n) (hN : n ≤ 100000) (a d s : ByteArray)
    (k m : Int) (h0 : 0 ≤ k) (h1 : k ≤ 255) (hk : k % 8 = 6) (q : Option Addr) (K cq : Nat) (ks : List Int) (hK : ks.length = K) (hq : Keep w bs q cq ks) :
    Calls Tryd.prog 13 #[pb b, rv p n c t.most (max 0 t.bad), .agg #[.int .u8 k, .string a, .string d, .string s, .int .i64 m, .slice q K cq]] w (DoPost w bs b p (crs t ks)) := by
  have hP := Lib.hid P
  obtain ⟨most, hmost⟩ : ∃ x, t.most = x := ⟨_, rfl⟩
  obtain ⟨bd, hbd⟩ : ∃ x, max 0 t.bad = x := ⟨_, rfl⟩
  have hPr : Hid (∀ W, Sto W bs b t → Keep W bs q cq ks → Calls Tryd.prog 12 #[pb b, .slice q K cq] W fun e w' => e = .returned (.tuple #[]) ∧ Does W bs w' b (crs t ks)) := Lib.hid fun W hW hk => by
    have := sto_crash hW (by omega) hk
    rwa [hK] at this
  have hRf : Hid (∀ W, Fs W p c t.L → Keep W bs q cq ks → Calls Tryd.prog 34 #[rv p n c most bd, .slice q K cq] W (CrashPost W most n (crsL t.L ks))) := Lib.hid fun W hW hk =>
    rcrash_calls t.L p c n hn (by omega) most bd P.sto.ok.sures (by have := tot_top P.sto.ok; omega) W hW q cq K ks hK hk.row (getD_rng hk.rng)
  have hall := Lib.hid P.sto.all
  have A0 := Lib.hid (DoA.start w (.slice p n c) (.int .i64 most) (.int .i64 bd) (.int .u8 k) (.string a) (.string d) (.string s) (.int .i64 m) (.slice q K cq))
  have B0 := Lib.hid ((((Below.refl w.heap.size w).alloc (Nat.le_refl _) (.cells #[.slice p n c, .int .i64 most, .int .i64 bd] 33 (0, 0))).alloc (by simp) (.cells #[.int .u8 k, .string a, .string d, .string s, .int .i64 m, .slice q K cq] 36 (0, 0))).alloc (by simp; omega) (.cells #[.slice none 0 0, .int .i64 0, .int .i64 0] 33 (0, 0)))
  have hKp := Lib.hid (hq.out (Out.ofNew B0.out))
  have hl : Hid ((crsL t.L ks).length = n) := Lib.hid (by rw [crs_len, hn])
  rw [hmost, hbd]
  have HM := Lib.hid hmost
  clear P hmost hbd hn hq hK
  go_enter Tryd.func13, Tryd.ntmps13
  go_wp2_with fail
  obtain ⟨W1, hW1⟩ : ∃ W, ((w.alloc (.cells #[.slice p n c, .int .i64 most, .int .i64 bd] 33 (0, 0))).alloc (.cells #[.int .u8 k, .string a, .string d, .string s, .int .i64 m, .slice q K cq] 36 (0, 0))).alloc (.cells #[.slice none 0 0, .int .i64 0, .int .i64 0] 33 (0, 0)) = W := ⟨_, rfl⟩
  rw [hW1] at A0 B0 hKp ⊢
  clear hW1
  refine (hPr.out _ (hP.out.sto.below B0.out) hKp.out).mono ?_
  rintro e w1 ⟨rfl, bs1, S1, O1, N1⟩
  have A1 := Lib.hid (A0.out.out O1 hall.out)
  have O2 : Hid (Out bs w w1) := Lib.hid ((Out.ofNew B0.out).trans O1 (fun _ _ h => h))
  have HN1 : Hid (∀ k, bs1 k → bs k ∨ w.heap.size + 2 < k) := Lib.hid fun k hk => (N1 k hk).imp id fun h => by have := A0.out.size; omega
  have HK1 := Lib.hid (hKp.out.out O1)
  have HF1 := Lib.hid (hP.out.fs.out O2.out fun g o e => (hP.out.far g o e).1)
  have HS := Lib.hid S1
  clear S1 O1 N1 hPr
  have n0 := (at_cell A1.out.b4 0 : _ = some _)
  have n1 := (at_cell A1.out.b4 1 : _ = some _)
  have n2 := (at_cell A1.out.b4 2 : _ = some _)
  have c5 := (at_cell A1.out.b5 5 : _ = some _)
  go_wp2_with fail
  refine (hRf.out _ HF1.out HK1.out).mono ?_
  rintro e w2 ⟨p', c', rfl, F2, hb2, hp2⟩
  have A2 := Lib.hid (A1.out.step hb2)
  have HS2 := Lib.hid (HS.out.below hb2)
  have O3 : Hid (Out bs w w2) := Lib.hid (O2.out.trans (Out.ofNew (S := bs) hb2) (fun _ _ h => h))
  have hfar : Hid (∀ g o, p' = some ⟨g, o, none⟩ → ¬ bs1 g ∧ g < w2.heap.size ∧ g ≠ w.heap.size ∧ g ≠ w.heap.size + 1 + 1) := Lib.hid fun g o e => by
    obtain ⟨a1, a2⟩ := hp2 g o e
    have := A1.out.size
    exact ⟨fun hk => by have := HS.out.all g hk; omega, a2, by omega, by omega⟩
  have hpp : Hid (p' = p ∨ ∀ g o, p' = some ⟨g, o, none⟩ → w.heap.size ≤ g) := Lib.hid (.inr fun g o e => by have := hp2 g o e; have := A1.out.size; omega)
  have HF2 := Lib.hid F2
  clear F2 hb2 hp2 hRf n0 n1 n2 c5
  have m0 := (at_cell A2.out.b6 0 : _ = some _)
  have m1 := (at_cell A2.out.b6 1 : _ = some _)
  have m2' := (at_cell A2.out.b6 2 : _ = some _)
  have mf0 := at_frozen A2.out.b6 0
  have mf1 := at_frozen A2.out.b6 1
  have mf2 := at_frozen A2.out.b6 2
  go_wp2_with fail
  refine bodyPost_ret (v := .tuple #[rv p' n c' most 0, .bool true]) ?_ rfl ?_
  · simp [results, Tryd.results13, go_sem, *]
  · refine do_fin2 hall.out O3.out HS2.out HN1.out (out_z (Out.refl _ w2) _ _ _) HF2.out hfar.out hpp.out ?_
    show _ = Ending.returned (.tuple #[rv p' (crsL t.L ks).length c' t.most (max 0 0), .bool true])
    rw [hl.out, HM.out]
    rfl
end Go.Proofs.YtejhggjehmioaaaDoor.Sto

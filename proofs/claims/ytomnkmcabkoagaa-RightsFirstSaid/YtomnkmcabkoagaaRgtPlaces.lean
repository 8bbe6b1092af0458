/-
  Layer 16 (rights): the places in a list of what fits.
-/
import Derived.Test.YtomnkmcabkoagaaRgtPlain
import Derived.Test.YtomnkmcabkoagaaConfFindC
import Derived.Shelf.Abstract
namespace Go.Proofs.Ytomnkmcabkoagaa.Rgt
open Go.RowKit Go.Proofs.Ytomnkmcabkoagaa.Own Go.Proofs.Ytomnkmcabkoagaa.Rw Go.Proofs.Ytomnkmcabkoagaa.Tree Go.Proofs.Ytomnkmcabkoagaa.Conf

def nsv (l : List Nat) : List Value := l.map fun (n : Nat) => .int .i64 n
theorem nsv_app (l m : List Nat) : nsv (l ++ m) = nsv l ++ nsv m := by simp [nsv]
theorem info_int : (Try.prog.info? 3).map (fun i => (i.zero, i.size, i.bytes)) = some (some (.int .i64 0), 1, 8) := by kernel_rfl
/-- a row of places, of the call's own -/
def PlPost (w : World) (l : List Nat) (e : Ending) (w' : World) : Prop := ∃ v, e = .returned v ∧ w'.ownsRow w.heap.size 3 1 v l.length (nsv l) ∧ Below w.heap.size w w'
structure PlAt (w wr : World) (l : List Nat) (v : Value) : Prop where
  own : wr.ownsRow w.heap.size 3 1 v l.length (nsv l)
  below : Below w.heap.size w wr
theorem PlAt.step {w wr w5 w6 w1 : World} {l : List Nat} {k : Nat} {v v' : Value} (h : PlAt w wr l v) (hb : Below wr.heap.size wr w5) (hb6 : Below w5.heap.size w5 w6)
    (ho : w1.ownsRow w.heap.size 3 1 v' (l.length + 1) (nsv l ++ [.int .i64 k])) (hg : w6.grownBy w1 v.ownBlock) : PlAt w w1 (l ++ [k]) v' := by
  have hs := h.below.size
  have hs5 := hb.size
  have hs6 := hb6.size
  refine ⟨?_, ?_⟩
  · rw [List.length_append, nsv_app, List.length_singleton]; exact ho
  · exact ((h.below.trans (hb.mono hs)).trans (hb6.mono (by omega))).grown hg (by omega) fun i e => (World.ownsRow.lt h.own i e).1
theorem PlAt.keep {w wr w5 : World} {l : List Nat} {v : Value} (h : PlAt w wr l v) (hb : Below wr.heap.size wr w5) : PlAt w w5 l v := ⟨own_below h.own hb, h.below.trans (hb.mono h.below.size)⟩

/-- an access's three cells -/
def acV (a : Ac) : Value := .agg #[.string ⟨a.1.toArray⟩, .string ⟨a.2.1.toArray⟩, .int .i64 a.2.2]
def At3 (w : World) (b o : Nat) (x : Ac) : Prop :=
  w.cell? ⟨b, o, none⟩ = some (.string ⟨x.1.toArray⟩) ∧ w.cell? ⟨b, o + 1, none⟩ = some (.string ⟨x.2.1.toArray⟩) ∧ w.cell? ⟨b, o + 2, none⟩ = some (.int .i64 x.2.2)
theorem acc_at {w : World} {p : Option Addr} {c n : Nat} {cs : List Ac} (h : Rd w 3 p c n (cs.flatMap acv)) {i : Nat} (hi : i < cs.length) : ∃ b o, p = some ⟨b, o, none⟩ ∧ b < w.heap.size ∧ i < n ∧ At3 w b (o + i * 3) cs[i] := by
  have hl := h.len
  rw [fm_len acv_len] at hl
  have hn : n = cs.length := by omega
  rcases h.cells with h0 | ⟨b, o, e, hb, k⟩
  · omega
  · have g : ∀ j v, j < 3 → (acv cs[i])[j]? = some v → w.cell? ⟨b, o + i * 3 + j, none⟩ = some v := fun j v hj hv => by
      have := k (i * 3 + j) v (by rw [fm_get acv_len hi j hj]; exact hv)
      rwa [← Nat.add_assoc] at this
    exact ⟨b, o, e, hb, by omega, g 0 _ (by omega) rfl, g 1 _ (by omega) rfl, g 2 _ (by omega) rfl⟩

set_option maxRecDepth 100000 in
set_option maxHeartbeats 4000000 in
theorem placesA_calls (cs : List Ac) (f : Ac → Bool) (F : Nat) (hE : Enters Try.prog F) (cp : Addr) (p : Option Addr) (k : Nat) (n : Nat) (hn : n = cs.length) (hm : n ≤ 65536) (w : World) (h : Rd w 3 p k n (cs.flatMap acv))
    (hF : ∀ a ∈ cs, ∀ (w' : World), Below w.heap.size w w' → Calls Try.prog F #[acV a, .pointer (some cp)] w' fun e w2 => e = .returned (.bool (f a)) ∧ Below w'.heap.size w' w2) :
    Calls Try.prog 43 #[.slice p n k, .func (.func F) #[] #[.pointer (some cp)]] w (PlPost w (plc cs f)) := by
  obtain ⟨i0, hi, hz0, hz1, hz2⟩ := info_parts info_int
  have HR := Lib.hid h
  have HN := Lib.hid hn
  have HF := Lib.hid hF
  have hE2 : ∀ args w, (callFunc F args).run Try.prog w = .ok (.enter F args) w := hE
  clear hE
  have hmx := h.max
  have hcp := h.cap
  unfold maxLen at hmx
  clear h hn hF
  unfold PlPost
  go_enter Try.func43, Try.ntmps43
  go_wp2_with fail
  go_loopw [5, 10] (fun tv i wr => ∃ k : Nat, k ≤ n ∧ i = .int .i64 k ∧ PlAt w wr (plcK cs f k) tv) (fun _ i _ => n - (Conf.intOf i).toNat)
  case atStart => exact ⟨0, by omega, rfl, World.ownsRow_nil _ _ _ _, Below.refl _ _⟩
  case round =>
    obtain ⟨j, hk, rfl, C⟩ := hrel
    rename World => wr
    have HC := Lib.hid C
    have hsz := C.below.size
    obtain ⟨tp, tc, rfl, -⟩ := own_slice C.own
    clear C
    rcases Nat.lt_or_eq_of_le hk with hlt | rfl
    · have hl1 : j < cs.length := by rw [← HN.out]; exact hlt
      have hlen : (plcK cs f j).length ≤ j := plc_len cs f j
      obtain ⟨g, o, rfl, hg, hkn, c0, c1, c2⟩ := acc_at (HR.out.below HC.out.below) hl1
      have q1 : (j : Int) < (n : Int) := by omega
      have HB := Lib.hid ((Below.refl wr.heap.size wr).alloc (Nat.le_refl _) (.cells #[.string ⟨cs[j].1.toArray⟩, .string ⟨cs[j].2.1.toArray⟩, .int .i64 cs[j].2.2] 50))
      have HA := Lib.hid fun (w' : World) (hb : Below wr.heap.size wr w') => HF.out cs[j] (List.getElem_mem hl1) w' (HC.out.below.trans (hb.mono hsz))
      cases hf : f cs[j] with
      | true =>
        have HE := Lib.hid (plc_yes hl1 hf)
        rw [hf] at HA
        unfold acV at HA
        generalize cs[j].1 = a1 at *
        generalize cs[j].2.1 = a2 at *
        generalize cs[j].2.2 = a3 at *
        clear hl1 hf
        generalize plcK cs f j = L at *
        go_wp2_with fail
        refine (HA.out _ HB.out).mono ?_
        rintro e w5 ⟨rfl, hb5⟩
        have C5 := HC.out.keep (HB.out.trans (hb5.mono HB.out.size))
        have H5 := Lib.hid C5
        have h5 := C5.below.size
        clear hb5 C5
        go_wp2_with (at_builtin; go_loud (refine Own.append_any rfl (.tmp 18) (.tmp 20) 34 rfl w.heap.size 3 i0 _ 1 8 Try.underlying34 hi hz0 hz1 hz2 rfl (by decide) _ _ _ rfl (World.ownsRow.alloc H5.out.own _) _ 1 1 [.int .i64 j] rfl (fun h => nomatch h) rfl (Rw.one_new _ _ _ _ rfl) (by simp [Value.oneCell']) (by unfold maxLen; omega) (by omega) (by simp; omega) ?_; intro v' w1 hown hgr; have C1 := Lib.hid (H5.out.step (k := j) (Below.refl _ _) ((Below.refl _ _).alloc (Nat.le_refl _) _) hown hgr)))
        go_roundw
        case rel => exact ⟨j + 1, by omega, by go_num, by rw [HE.out]; exact C1.out⟩
        case measure => simp [Conf.intOf]; omega
      | false =>
        have HE := Lib.hid (plc_no hl1 hf)
        rw [hf] at HA
        unfold acV at HA
        generalize cs[j].1 = a1 at *
        generalize cs[j].2.1 = a2 at *
        generalize cs[j].2.2 = a3 at *
        clear hl1 hf
        generalize plcK cs f j = L at *
        go_wp2_with fail
        refine (HA.out _ HB.out).mono ?_
        rintro e w5 ⟨rfl, hb5⟩
        have C5 := HC.out.keep (HB.out.trans (hb5.mono HB.out.size))
        have H5 := Lib.hid C5
        have h5 := C5.below.size
        clear hb5 C5
        go_wp2_with fail
        go_roundw
        case rel => exact ⟨j + 1, by omega, by go_num, by rw [HE.out]; exact H5.out⟩
        case measure => simp [Conf.intOf]; omega
    · have HE : Hid (plcK cs f j = plc cs f) := Lib.hid (by unfold plc; rw [HN.out])
      go_wp2_with fail
      go_ret
      exact ⟨_, rfl, by rw [← HE.out]; exact HC.out.own, HC.out.below⟩
set_option maxRecDepth 100000 in
set_option maxHeartbeats 4000000 in
theorem placesC_calls (cs : List Cn) (f : Cn → Bool) (F : Nat) (hE : Enters Try.prog F) (cp : Addr) (p : Option Addr) (k : Nat) (n : Nat) (hn : n = cs.length) (hm : n ≤ 65536) (w : World) (h : Rd w 10 p k n (cs.flatMap cnv))
    (hF : ∀ a ∈ cs, ∀ (w' : World), Below w.heap.size w w' → Calls Try.prog F #[cnV a, .pointer (some cp)] w' fun e w2 => e = .returned (.bool (f a)) ∧ Below w'.heap.size w' w2) :
    Calls Try.prog 25 #[.slice p n k, .func (.func F) #[] #[.pointer (some cp)]] w (PlPost w (plc cs f)) := by
  obtain ⟨i0, hi, hz0, hz1, hz2⟩ := info_parts info_int
  have HR := Lib.hid h
  have HN := Lib.hid hn
  have HF := Lib.hid hF
  have hE2 : ∀ args w, (callFunc F args).run Try.prog w = .ok (.enter F args) w := hE
  clear hE
  have hmx := h.max
  have hcp := h.cap
  unfold maxLen at hmx
  clear h hn hF
  unfold PlPost
  go_enter Try.func25, Try.ntmps25
  go_wp2_with fail
  go_loopw [5, 10] (fun tv i wr => ∃ k : Nat, k ≤ n ∧ i = .int .i64 k ∧ PlAt w wr (plcK cs f k) tv) (fun _ i _ => n - (Conf.intOf i).toNat)
  case atStart => exact ⟨0, by omega, rfl, World.ownsRow_nil _ _ _ _, Below.refl _ _⟩
  case round =>
    obtain ⟨j, hk, rfl, C⟩ := hrel
    rename World => wr
    have HC := Lib.hid C
    have hsz := C.below.size
    obtain ⟨tp, tc, rfl, -⟩ := own_slice C.own
    clear C
    rcases Nat.lt_or_eq_of_le hk with hlt | rfl
    · have hl1 : j < cs.length := by rw [← HN.out]; exact hlt
      have hlen : (plcK cs f j).length ≤ j := plc_len cs f j
      obtain ⟨g, o, rfl, hg, hkn, hat⟩ := con_at (HR.out.below HC.out.below) hl1
      obtain ⟨c0, c1, c2, c3, c4, c5, c6, c7, c8, c9⟩ := hat
      have q1 : (j : Int) < (n : Int) := by omega
      have HB := Lib.hid ((Below.refl wr.heap.size wr).alloc (Nat.le_refl _) (.cells #[.string ⟨cs[j].name.toArray⟩, .int .i64 cs[j].kind, .int .i64 cs[j].lines, .int .i64 cs[j].bytes, .int .i64 cs[j].gens, .int .i64 cs[j].size, .int .i64 cs[j].base, .int .i64 cs[j].cap, .int .i64 cs[j].jit, .string ⟨cs[j].init.toArray⟩] 47))
      have HA := Lib.hid fun (w' : World) (hb : Below wr.heap.size wr w') => HF.out cs[j] (List.getElem_mem hl1) w' (HC.out.below.trans (hb.mono hsz))
      cases hf : f cs[j] with
      | true =>
        have HE := Lib.hid (plc_yes hl1 hf)
        rw [hf] at HA
        unfold cnV at HA
        generalize cs[j] = x at *
        clear hl1 hf
        generalize plcK cs f j = L at *
        go_wp2_with fail
        refine (HA.out _ HB.out).mono ?_
        rintro e w5 ⟨rfl, hb5⟩
        have C5 := HC.out.keep (HB.out.trans (hb5.mono HB.out.size))
        have H5 := Lib.hid C5
        have h5 := C5.below.size
        clear hb5 C5
        go_wp2_with (at_builtin; go_loud (refine Own.append_any rfl (.tmp 18) (.tmp 20) 34 rfl w.heap.size 3 i0 _ 1 8 Try.underlying34 hi hz0 hz1 hz2 rfl (by decide) _ _ _ rfl (World.ownsRow.alloc H5.out.own _) _ 1 1 [.int .i64 j] rfl (fun h => nomatch h) rfl (Rw.one_new _ _ _ _ rfl) (by simp [Value.oneCell']) (by unfold maxLen; omega) (by omega) (by simp; omega) ?_; intro v' w1 hown hgr; have C1 := Lib.hid (H5.out.step (k := j) (Below.refl _ _) ((Below.refl _ _).alloc (Nat.le_refl _) _) hown hgr)))
        go_roundw
        case rel => exact ⟨j + 1, by omega, by go_num, by rw [HE.out]; exact C1.out⟩
        case measure => simp [Conf.intOf]; omega
      | false =>
        have HE := Lib.hid (plc_no hl1 hf)
        rw [hf] at HA
        unfold cnV at HA
        generalize cs[j] = x at *
        clear hl1 hf
        generalize plcK cs f j = L at *
        go_wp2_with fail
        refine (HA.out _ HB.out).mono ?_
        rintro e w5 ⟨rfl, hb5⟩
        have C5 := HC.out.keep (HB.out.trans (hb5.mono HB.out.size))
        have H5 := Lib.hid C5
        have h5 := C5.below.size
        clear hb5 C5
        go_wp2_with fail
        go_roundw
        case rel => exact ⟨j + 1, by omega, by go_num, by rw [HE.out]; exact H5.out⟩
        case measure => simp [Conf.intOf]; omega
    · have HE : Hid (plcK cs f j = plc cs f) := Lib.hid (by unfold plc; rw [HN.out])
      go_wp2_with fail
      go_ret
      exact ⟨_, rfl, by rw [← HE.out]; exact HC.out.own, HC.out.below⟩
set_option maxRecDepth 100000 in
set_option maxHeartbeats 4000000 in
theorem placesC2_calls (cs : List Cn) (f : Cn → Bool) (F : Nat) (hE : Enters Try.prog F) (cp cq : Addr) (p : Option Addr) (k : Nat) (n : Nat) (hn : n = cs.length) (hm : n ≤ 65536) (w : World) (h : Rd w 10 p k n (cs.flatMap cnv))
    (hF : ∀ a ∈ cs, ∀ (w' : World), Below w.heap.size w w' → Calls Try.prog F #[cnV a, .pointer (some cp), .pointer (some cq)] w' fun e w2 => e = .returned (.bool (f a)) ∧ Below w'.heap.size w' w2) :
    Calls Try.prog 25 #[.slice p n k, .func (.func F) #[] #[.pointer (some cp), .pointer (some cq)]] w (PlPost w (plc cs f)) := by
  obtain ⟨i0, hi, hz0, hz1, hz2⟩ := info_parts info_int
  have HR := Lib.hid h
  have HN := Lib.hid hn
  have HF := Lib.hid hF
  have hE2 : ∀ args w, (callFunc F args).run Try.prog w = .ok (.enter F args) w := hE
  clear hE
  have hmx := h.max
  have hcp := h.cap
  unfold maxLen at hmx
  clear h hn hF
  unfold PlPost
  go_enter Try.func25, Try.ntmps25
  go_wp2_with fail
  go_loopw [5, 10] (fun tv i wr => ∃ k : Nat, k ≤ n ∧ i = .int .i64 k ∧ PlAt w wr (plcK cs f k) tv) (fun _ i _ => n - (Conf.intOf i).toNat)
  case atStart => exact ⟨0, by omega, rfl, World.ownsRow_nil _ _ _ _, Below.refl _ _⟩
  case round =>
    obtain ⟨j, hk, rfl, C⟩ := hrel
    rename World => wr
    have HC := Lib.hid C
    have hsz := C.below.size
    obtain ⟨tp, tc, rfl, -⟩ := own_slice C.own
    clear C
    rcases Nat.lt_or_eq_of_le hk with hlt | rfl
    · have hl1 : j < cs.length := by rw [← HN.out]; exact hlt
      have hlen : (plcK cs f j).length ≤ j := plc_len cs f j
      obtain ⟨g, o, rfl, hg, hkn, hat⟩ := con_at (HR.out.below HC.out.below) hl1
      obtain ⟨c0, c1, c2, c3, c4, c5, c6, c7, c8, c9⟩ := hat
      have q1 : (j : Int) < (n : Int) := by omega
      have HB := Lib.hid ((Below.refl wr.heap.size wr).alloc (Nat.le_refl _) (.cells #[.string ⟨cs[j].name.toArray⟩, .int .i64 cs[j].kind, .int .i64 cs[j].lines, .int .i64 cs[j].bytes, .int .i64 cs[j].gens, .int .i64 cs[j].size, .int .i64 cs[j].base, .int .i64 cs[j].cap, .int .i64 cs[j].jit, .string ⟨cs[j].init.toArray⟩] 47))
      have HA := Lib.hid fun (w' : World) (hb : Below wr.heap.size wr w') => HF.out cs[j] (List.getElem_mem hl1) w' (HC.out.below.trans (hb.mono hsz))
      cases hf : f cs[j] with
      | true =>
        have HE := Lib.hid (plc_yes hl1 hf)
        rw [hf] at HA
        unfold cnV at HA
        generalize cs[j] = x at *
        clear hl1 hf
        generalize plcK cs f j = L at *
        go_wp2_with fail
        refine (HA.out _ HB.out).mono ?_
        rintro e w5 ⟨rfl, hb5⟩
        have C5 := HC.out.keep (HB.out.trans (hb5.mono HB.out.size))
        have H5 := Lib.hid C5
        have h5 := C5.below.size
        clear hb5 C5
        go_wp2_with (at_builtin; go_loud (refine Own.append_any rfl (.tmp 18) (.tmp 20) 34 rfl w.heap.size 3 i0 _ 1 8 Try.underlying34 hi hz0 hz1 hz2 rfl (by decide) _ _ _ rfl (World.ownsRow.alloc H5.out.own _) _ 1 1 [.int .i64 j] rfl (fun h => nomatch h) rfl (Rw.one_new _ _ _ _ rfl) (by simp [Value.oneCell']) (by unfold maxLen; omega) (by omega) (by simp; omega) ?_; intro v' w1 hown hgr; have C1 := Lib.hid (H5.out.step (k := j) (Below.refl _ _) ((Below.refl _ _).alloc (Nat.le_refl _) _) hown hgr)))
        go_roundw
        case rel => exact ⟨j + 1, by omega, by go_num, by rw [HE.out]; exact C1.out⟩
        case measure => simp [Conf.intOf]; omega
      | false =>
        have HE := Lib.hid (plc_no hl1 hf)
        rw [hf] at HA
        unfold cnV at HA
        generalize cs[j] = x at *
        clear hl1 hf
        generalize plcK cs f j = L at *
        go_wp2_with fail
        refine (HA.out _ HB.out).mono ?_
        rintro e w5 ⟨rfl, hb5⟩
        have C5 := HC.out.keep (HB.out.trans (hb5.mono HB.out.size))
        have H5 := Lib.hid C5
        have h5 := C5.below.size
        clear hb5 C5
        go_wp2_with fail
        go_roundw
        case rel => exact ⟨j + 1, by omega, by go_num, by rw [HE.out]; exact H5.out⟩
        case measure => simp [Conf.intOf]; omega
    · have HE : Hid (plcK cs f j = plc cs f) := Lib.hid (by unfold plc; rw [HN.out])
      go_wp2_with fail
      go_ret
      exact ⟨_, rfl, by rw [← HE.out]; exact HC.out.own, HC.out.below⟩
end Go.Proofs.Ytomnkmcabkoagaa.Rgt

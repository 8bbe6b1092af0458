/-
  Layer 16 (rights): slices.IndexFunc, slices.ContainsFunc with closures.
-/
import Derived.Test.YtomnkmcabkoagaaRgtPlaces
namespace Go.Proofs.Ytomnkmcabkoagaa.Rgt
open Go.RowKit Go.Proofs.Ytomnkmcabkoagaa.Own Go.Proofs.Ytomnkmcabkoagaa.Rw Go.Proofs.Ytomnkmcabkoagaa.Tree Go.Proofs.Ytomnkmcabkoagaa.Conf

theorem usr_at {w : World} {p : Option Addr} {c n : Nat} {cs : List (Bs × Bs)} (h : Rd w 2 p c n (cs.flatMap urv)) {i : Nat} (hi : i < cs.length) : ∃ b o, p = some ⟨b, o, none⟩ ∧ b < w.heap.size ∧ i < n ∧ w.cell? ⟨b, o + i * 2, none⟩ = some (.string ⟨cs[i].1.toArray⟩) ∧ w.cell? ⟨b, o + i * 2 + 1, none⟩ = some (.string ⟨cs[i].2.toArray⟩) := by
  have hl := h.len
  rw [fm_len urv_len] at hl
  have hn : n = cs.length := by omega
  rcases h.cells with h0 | ⟨b, o, e, hb, k⟩
  · omega
  · have g : ∀ j v, j < 2 → (urv cs[i])[j]? = some v → w.cell? ⟨b, o + i * 2 + j, none⟩ = some v := fun j v hj hv => by
      have := k (i * 2 + j) v (by rw [fm_get urv_len hi j hj]; exact hv)
      rwa [← Nat.add_assoc] at this
    exact ⟨b, o, e, hb, by omega, g 0 _ (by omega) rfl, g 1 _ (by omega) rfl⟩
theorem grp_at {w : World} {p : Option Addr} {c n : Nat} {gs : List Value} {cs : List (Bs × List Bs)} (h : Rd w 2 p c n gs) (hg : Gs w.heap.size w gs cs) {i : Nat} (hi : i < cs.length) : ∃ b o q d, p = some ⟨b, o, none⟩ ∧ b < w.heap.size ∧ i < n ∧ w.cell? ⟨b, o + i * 2, none⟩ = some (.string ⟨cs[i].1.toArray⟩) ∧ w.cell? ⟨b, o + i * 2 + 1, none⟩ = some (.slice q cs[i].2.length d) ∧ Texts w q d cs[i].2 := by
  have hl := h.len
  rw [hg.len] at hl
  have hn : n = cs.length := by omega
  obtain ⟨q, d, e0, e1, ht⟩ := hg.at_ hi
  rcases h.cells with h0 | ⟨b, o, e, hb, k⟩
  · omega
  · refine ⟨b, o, q, d, e, hb, by omega, k _ _ e0, ?_, ht.tx⟩
    have := k _ _ e1
    rwa [← Nat.add_assoc] at this
theorem tx_at {w : World} {p : Option Addr} {c : Nat} {cs : List Bs} (h : Texts w p c cs) {i : Nat} (hi : i < cs.length) : ∃ b o, p = some ⟨b, o, none⟩ ∧ b < w.heap.size ∧ w.cell? ⟨b, o + i, none⟩ = some (.string ⟨cs[i].toArray⟩) := by
  rcases h.cells with h0 | ⟨b, o, e, hb, k⟩
  · subst h0; exact absurd hi (by simp)
  · exact ⟨b, o, e, hb, k i hi⟩
set_option maxRecDepth 100000 in
set_option maxHeartbeats 4000000 in
theorem idxU_calls (cs : List (Bs × Bs)) (f : (Bs × Bs) → Bool) (F : Nat) (hE : Enters Try.prog F) (cp : Addr) (p : Option Addr) (k : Nat) (n : Nat) (hn : n = cs.length) (hm : n ≤ 65536) (w : World) (h : Rd w 2 p k n (cs.flatMap urv))
    (hF : ∀ a ∈ cs, ∀ (w' : World), Below w.heap.size w w' → Calls Try.prog F #[.agg #[.string ⟨a.1.toArray⟩, .string ⟨a.2.toArray⟩], .pointer (some cp)] w' fun e w2 => e = .returned (.bool (f a)) ∧ Below w'.heap.size w' w2) :
    Calls Try.prog 27 #[.slice p n k, .func (.func F) #[] #[.pointer (some cp)]] w fun e w' => e = .returned (.int .i64 (idx cs f)) ∧ Below w.heap.size w w' := by
  have HR := Lib.hid h
  have HN := Lib.hid hn
  have HF := Lib.hid hF
  have hE2 : ∀ args w, (callFunc F args).run Try.prog w = .ok (.enter F args) w := hE
  clear hE
  have hmx := h.max
  have hcp := h.cap
  unfold maxLen at hmx
  clear h hn hF 
  go_enter Try.func27, Try.ntmps27
  go_wp2_with fail
  go_loopw [8] (fun i wr => ∃ k : Nat, k ≤ n ∧ i = .int .i64 k ∧ Below w.heap.size w wr ∧ ∀ x ∈ cs.take k, f x = false) (fun i _ => n - (Conf.intOf i).toNat)
  case atStart => exact ⟨0, by omega, rfl, Below.refl _ _, fun x hx => by simp at hx⟩
  case round =>
    obtain ⟨j, hk, rfl, hb, hno⟩ := hrel
    rename World => wr
    have HB := Lib.hid hb
    have HNO := Lib.hid hno
    have hsz := hb.size
    clear hb hno
    rcases Nat.lt_or_eq_of_le hk with hlt | rfl
    · have hl1 : j < cs.length := by rw [← HN.out]; exact hlt
      obtain ⟨g, o, rfl, hg, hkn, c0, c1⟩ := usr_at (HR.out.below HB.out) hl1
      have q1 : (j : Int) < (n : Int) := by omega
      have HA := Lib.hid fun (w' : World) (hb : Below wr.heap.size wr w') => HF.out cs[j] (List.getElem_mem hl1) w' (HB.out.trans (hb.mono hsz))
      cases hf : f cs[j] with
      | true =>
        have HE := Lib.hid (idx_at hl1 hf HNO.out)
        rw [hf] at HA
        generalize cs[j].1 = a1 at *
        generalize cs[j].2 = a2 at *
        clear hl1 hf
        go_wp2_with fail
        refine (HA.out _ ?bel).mono ?_
        case bel => first | exact Below.refl _ _ | exact below_drew (Below.refl _ _)
        rintro e w5 ⟨rfl, hb5⟩
        have H5 := Lib.hid (HB.out.trans (hb5.mono hsz))
        clear hb5
        go_wp2_with fail
        go_ret
        exact ⟨by rw [HE.out]; rfl, H5.out⟩
      | false =>
        have HE := Lib.hid (idx_take hl1 hf HNO.out)
        rw [hf] at HA
        generalize cs[j].1 = a1 at *
        generalize cs[j].2 = a2 at *
        clear hl1 hf
        go_wp2_with fail
        refine (HA.out _ ?bel).mono ?_
        case bel => first | exact Below.refl _ _ | exact below_drew (Below.refl _ _)
        rintro e w5 ⟨rfl, hb5⟩
        have H5 := Lib.hid (HB.out.trans (hb5.mono hsz))
        clear hb5
        go_wp2_with fail
        go_roundw
        case rel => exact ⟨j + 1, by omega, by go_num, H5.out, HE.out⟩
        case measure => simp [Conf.intOf]; omega
    · have HE := Lib.hid (idx_none (l := cs) (f := f) (by
        have := HNO.out
        rwa [List.take_of_length_le (by have := HN.out; omega)] at this))
      go_wp2_with fail
      go_ret
      exact ⟨by rw [HE.out]; rfl, HB.out⟩
set_option maxRecDepth 100000 in
set_option maxHeartbeats 4000000 in
theorem idxG_calls (cs : List (Bs × List Bs)) (f : (Bs × List Bs) → Bool) (F : Nat) (hE : Enters Try.prog F) (cp : Addr) (p : Option Addr) (k : Nat) (n : Nat) (hn : n = cs.length) (hm : n ≤ 65536) (w : World) {gs : List Value} (h : Rd w 2 p k n gs) (hg : Gs w.heap.size w gs cs)
    (hF : ∀ a ∈ cs, ∀ (u : Value) (w' : World), Below w.heap.size w w' → Calls Try.prog F #[.agg #[.string ⟨a.1.toArray⟩, u], .pointer (some cp)] w' fun e w2 => e = .returned (.bool (f a)) ∧ Below w'.heap.size w' w2) :
    Calls Try.prog 30 #[.slice p n k, .func (.func F) #[] #[.pointer (some cp)]] w fun e w' => e = .returned (.int .i64 (idx cs f)) ∧ Below w.heap.size w w' := by
  have HR := Lib.hid h
  have HG := Lib.hid hg
  have HN := Lib.hid hn
  have HF := Lib.hid hF
  have hE2 : ∀ args w, (callFunc F args).run Try.prog w = .ok (.enter F args) w := hE
  clear hE
  have hmx := h.max
  have hcp := h.cap
  unfold maxLen at hmx
  clear h hn hF hg
  go_enter Try.func30, Try.ntmps30
  go_wp2_with fail
  go_loopw [8] (fun i wr => ∃ k : Nat, k ≤ n ∧ i = .int .i64 k ∧ Below w.heap.size w wr ∧ ∀ x ∈ cs.take k, f x = false) (fun i _ => n - (Conf.intOf i).toNat)
  case atStart => exact ⟨0, by omega, rfl, Below.refl _ _, fun x hx => by simp at hx⟩
  case round =>
    obtain ⟨j, hk, rfl, hb, hno⟩ := hrel
    rename World => wr
    have HB := Lib.hid hb
    have HNO := Lib.hid hno
    have hsz := hb.size
    clear hb hno
    rcases Nat.lt_or_eq_of_le hk with hlt | rfl
    · have hl1 : j < cs.length := by rw [← HN.out]; exact hlt
      obtain ⟨g, o, q, d, rfl, hg, hkn, c0, c1, ht⟩ := grp_at (HR.out.below HB.out) ((HG.out.keep HB.out).up HB.out.size) hl1
      clear ht
      have q1 : (j : Int) < (n : Int) := by omega
      have HA := Lib.hid fun (u : Value) (w' : World) (hb : Below wr.heap.size wr w') => HF.out cs[j] (List.getElem_mem hl1) u w' (HB.out.trans (hb.mono hsz))
      cases hf : f cs[j] with
      | true =>
        have HE := Lib.hid (idx_at hl1 hf HNO.out)
        rw [hf] at HA
        generalize cs[j].1 = a1 at *
        generalize cs[j].2.length = a2 at *
        clear hl1 hf
        go_wp2_with fail
        refine (HA.out _ _ ?bel).mono ?_
        case bel => first | exact Below.refl _ _ | exact below_drew (Below.refl _ _)
        rintro e w5 ⟨rfl, hb5⟩
        have H5 := Lib.hid (HB.out.trans (hb5.mono hsz))
        clear hb5
        go_wp2_with fail
        go_ret
        exact ⟨by rw [HE.out]; rfl, H5.out⟩
      | false =>
        have HE := Lib.hid (idx_take hl1 hf HNO.out)
        rw [hf] at HA
        generalize cs[j].1 = a1 at *
        generalize cs[j].2.length = a2 at *
        clear hl1 hf
        go_wp2_with fail
        refine (HA.out _ _ ?bel).mono ?_
        case bel => first | exact Below.refl _ _ | exact below_drew (Below.refl _ _)
        rintro e w5 ⟨rfl, hb5⟩
        have H5 := Lib.hid (HB.out.trans (hb5.mono hsz))
        clear hb5
        go_wp2_with fail
        go_roundw
        case rel => exact ⟨j + 1, by omega, by go_num, H5.out, HE.out⟩
        case measure => simp [Conf.intOf]; omega
    · have HE := Lib.hid (idx_none (l := cs) (f := f) (by
        have := HNO.out
        rwa [List.take_of_length_le (by have := HN.out; omega)] at this))
      go_wp2_with fail
      go_ret
      exact ⟨by rw [HE.out]; rfl, HB.out⟩
set_option maxRecDepth 100000 in
set_option maxHeartbeats 4000000 in
theorem idxS_calls (cs : List Bs) (f : Bs → Bool) (F : Nat) (hE : Enters Try.prog F) (cp : Addr) (p : Option Addr) (k : Nat) (n : Nat) (hn : n = cs.length) (hm : n ≤ 65536) (w : World) (h : Texts w p k cs)
    (hF : ∀ a ∈ cs, ∀ (w' : World), Below w.heap.size w w' → Calls Try.prog F #[.string ⟨a.toArray⟩, .pointer (some cp)] w' fun e w2 => e = .returned (.bool (f a)) ∧ Below w'.heap.size w' w2) :
    Calls Try.prog 48 #[.slice p n k, .func (.func F) #[] #[.pointer (some cp)]] w fun e w' => e = .returned (.int .i64 (idx cs f)) ∧ Below w.heap.size w w' := by
  have HR := Lib.hid h
  have HN := Lib.hid hn
  have HF := Lib.hid hF
  have hE2 : ∀ args w, (callFunc F args).run Try.prog w = .ok (.enter F args) w := hE
  clear hE
  have hmx := h.cap.2
  have hcp := h.cap.1
  unfold maxLen at hmx
  clear h hn hF 
  go_enter Try.func48, Try.ntmps48
  go_wp2_with fail
  go_loopw [8] (fun i wr => ∃ k : Nat, k ≤ n ∧ i = .int .i64 k ∧ Below w.heap.size w wr ∧ ∀ x ∈ cs.take k, f x = false) (fun i _ => n - (Conf.intOf i).toNat)
  case atStart => exact ⟨0, by omega, rfl, Below.refl _ _, fun x hx => by simp at hx⟩
  case round =>
    obtain ⟨j, hk, rfl, hb, hno⟩ := hrel
    rename World => wr
    have HB := Lib.hid hb
    have HNO := Lib.hid hno
    have hsz := hb.size
    clear hb hno
    rcases Nat.lt_or_eq_of_le hk with hlt | rfl
    · have hl1 : j < cs.length := by rw [← HN.out]; exact hlt
      obtain ⟨g, o, rfl, hg, c0⟩ := tx_at (HR.out.below HB.out) hl1
      have q1 : (j : Int) < (n : Int) := by omega
      have HA := Lib.hid fun (w' : World) (hb : Below wr.heap.size wr w') => HF.out cs[j] (List.getElem_mem hl1) w' (HB.out.trans (hb.mono hsz))
      cases hf : f cs[j] with
      | true =>
        have HE := Lib.hid (idx_at hl1 hf HNO.out)
        rw [hf] at HA
        generalize cs[j] = a1 at *
        clear hl1 hf
        go_wp2_with fail
        refine (HA.out _ ?bel).mono ?_
        case bel => first | exact Below.refl _ _ | exact below_drew (Below.refl _ _)
        rintro e w5 ⟨rfl, hb5⟩
        have H5 := Lib.hid (HB.out.trans (hb5.mono hsz))
        clear hb5
        go_wp2_with fail
        go_ret
        exact ⟨by rw [HE.out]; rfl, H5.out⟩
      | false =>
        have HE := Lib.hid (idx_take hl1 hf HNO.out)
        rw [hf] at HA
        generalize cs[j] = a1 at *
        clear hl1 hf
        go_wp2_with fail
        refine (HA.out _ ?bel).mono ?_
        case bel => first | exact Below.refl _ _ | exact below_drew (Below.refl _ _)
        rintro e w5 ⟨rfl, hb5⟩
        have H5 := Lib.hid (HB.out.trans (hb5.mono hsz))
        clear hb5
        go_wp2_with fail
        go_roundw
        case rel => exact ⟨j + 1, by omega, by go_num, H5.out, HE.out⟩
        case measure => simp [Conf.intOf]; omega
    · have HE := Lib.hid (idx_none (l := cs) (f := f) (by
        have := HNO.out
        rwa [List.take_of_length_le (by have := HN.out; omega)] at this))
      go_wp2_with fail
      go_ret
      exact ⟨by rw [HE.out]; rfl, HB.out⟩

theorem idx_any {α : Type} (l : List α) (f : α → Bool) : decide (0 ≤ idx l f) = l.any f := by
  rcases idx_cases l f with ⟨e, h⟩ | ⟨k, hk, e, h⟩
  · rw [e]
    rw [List.find?_eq_none] at h
    symm
    rw [List.any_eq_false.2 h]
    rfl
  · rw [e]
    symm
    have := List.find?_some h
    rw [List.any_eq_true.2 ⟨l[k], List.getElem_mem hk, this⟩]
    simp
set_option maxRecDepth 100000 in
set_option maxHeartbeats 1000000 in
theorem contains_calls (cs : List Bs) (f : Bs → Bool) (F : Nat) (hE : Enters Try.prog F) (cp : Addr) (p : Option Addr) (k : Nat) (n : Nat) (hn : n = cs.length) (hm : n ≤ 65536) (w : World) (h : Texts w p k cs)
    (hF : ∀ a ∈ cs, ∀ (w' : World), Below w.heap.size w w' → Calls Try.prog F #[.string ⟨a.toArray⟩, .pointer (some cp)] w' fun e w2 => e = .returned (.bool (f a)) ∧ Below w'.heap.size w' w2) :
    Calls Try.prog 33 #[.slice p n k, .func (.func F) #[] #[.pointer (some cp)]] w fun e w' => e = .returned (.bool (cs.any f)) ∧ Below w.heap.size w w' := by
  have HI := Lib.hid (idxS_calls cs f F hE cp p k n hn hm w h hF)
  have HA := Lib.hid (idx_any cs f)
  generalize idx cs f = i at *
  clear hE hn h hF hm
  go_enter Try.func33, Try.ntmps33
  go_wp2_with fail
  refine HI.out.mono ?_
  rintro e w' ⟨rfl, hb⟩
  go_wp2_with fail
  go_ret
  exact ⟨by rw [← HA.out]; rfl, hb⟩
end Go.Proofs.Ytomnkmcabkoagaa.Rgt

/-
  Layer 20 (mark): writeLine, writeBytes, write, walked.
-/
import Derived.Test.YtbjlnaobmgbpfaaDoorMrkLow
namespace Go.Proofs.YtbjlnaobmgbpfaaDoor.Mark
open Go.RowKit Go.Proofs.YtbjlnaobmgbpfaaDoor.Own Go.Proofs.YtbjlnaobmgbpfaaDoor.Rw Go.Proofs.YtbjlnaobmgbpfaaDoor.Rec Go.Proofs.YtbjlnaobmgbpfaaDoor.Bld Go.Proofs.YtbjlnaobmgbpfaaDoor.Digit Go.Proofs.YtbjlnaobmgbpfaaDoor.Clock

def EndPost (B b M : Nat) (acc t : List UInt8) (o : Bool) (w : World) (e : Ending) (w' : World) : Prop := e = .returned (.tuple #[]) ∧ WrPost B b M acc t o w w'
theorem app_len (a b : List UInt8) : (a ++ b).length = a.length + b.length := List.length_append

set_option maxRecDepth 100000 in
set_option maxHeartbeats 2000000 in
theorem writeLine_calls (B b M : Nat) (acc : List UInt8) (o : Bool) (n : Int) (l : List UInt8) (w : World) (hM : Months w) (hd : Bd B b acc w) (hm : Mk M o w) (h0 : 0 < B) (hB : B ≤ w.heap.size) (hlen : acc.length + l.length ≤ 1099511627776) :
    Calls Tryd.prog 22 #[.pointer (some ⟨M, 0, none⟩), .pointer (some ⟨b, 0, none⟩), .int .i64 n, .string ⟨l.toArray⟩] w (EndPost B b M acc (lin o (st n) l) false w) := by
  have H0 := Lib.hid (WrPost.start hd hm hM h0 hB)
  have c0 := hm.cell
  have hs := st_le n
  clear hd hm hM
  cases o with
  | true =>
    go_enter Tryd.func22, Tryd.ntmps22
    go_wp2_with fail
    refine (H0.out.wbyte (c := 10) (by rw [app_len]; simp; omega)).mono ?_
    rintro e w1 ⟨rfl, h1⟩
    have H1 := Lib.hid h1
    clear h1 c0 H0
    go_wp2_with fail
    refine (H1.out.stamp n).mono ?_
    rintro e w2 ⟨rfl, h1⟩
    have H2 := Lib.hid h1
    clear h1 H1
    go_wp2_with fail
    refine (H2.out.wstr (by simp only [app_len]; simp; omega)).mono ?_
    rintro e w3 ⟨rfl, h1⟩
    have H3 := Lib.hid h1
    clear h1 H2
    go_wp2_with fail
    refine (H3.out.wstr (by simp only [app_len]; simp; omega)).mono ?_
    rintro e w4 ⟨rfl, h1⟩
    have c1 := h1.mkr.cell
    have f1 := h1.mkr.froz
    have l1 := at_lt h1.mkr
    have H4 := Lib.hid h1
    clear h1 H3
    go_wp2_with fail
    go_end0
    exact ⟨rfl, by have := H4.out.set false; simpa [lin] using this⟩
  | false =>
    go_enter Tryd.func22, Tryd.ntmps22
    go_wp2_with fail
    refine (H0.out.stamp n).mono ?_
    rintro e w2 ⟨rfl, h1⟩
    have H2 := Lib.hid h1
    clear h1 H0 c0
    go_wp2_with fail
    refine (H2.out.wstr (by simp only [app_len]; simp; omega)).mono ?_
    rintro e w3 ⟨rfl, h1⟩
    have H3 := Lib.hid h1
    clear h1 H2
    go_wp2_with fail
    refine (H3.out.wstr (by simp only [app_len]; simp; omega)).mono ?_
    rintro e w4 ⟨rfl, h1⟩
    have c1 := h1.mkr.cell
    have f1 := h1.mkr.froz
    have l1 := at_lt h1.mkr
    have H4 := Lib.hid h1
    clear h1 H3
    go_wp2_with fail
    go_end0
    exact ⟨rfl, by have := H4.out.set false; simpa [lin] using this⟩

/-- where writeBytes stands: f is the first byte that is not written -/
structure BAt (B b M : Nat) (acc : List UInt8) (o : Bool) (s L : List UInt8) (f k : Nat) (w wr : World) : Prop where
  post : WrPost B b M acc (dat o s (L.take f)) (opn o (L.take f)) w wr
  le : f ≤ k
  no : ∀ x ∈ (L.take k).drop f, x ≠ 10
  end_ : k = L.length → f = k
theorem BAt.skip {B b M : Nat} {acc : List UInt8} {o : Bool} {s L : List UInt8} {f k : Nat} {w wr : World} (h : BAt B b M acc o s L f k w wr) (hk : k + 1 < L.length) (hc : L[k] ≠ 10) : BAt B b M acc o s L f (k + 1) w wr := by
  refine ⟨h.post, by have := h.le; omega, fun x hx => ?_, fun e => by omega⟩
  have e : L.take (k + 1) = L.take k ++ [L[k]] := take_next (by omega)
  rw [e, List.drop_append_of_le_length (by rw [List.length_take]; have := h.le; omega)] at hx
  rw [List.mem_append, List.mem_singleton] at hx
  rcases hx with hx | rfl
  · exact h.no x hx
  · exact hc
theorem seg_split {L : List UInt8} {f k : Nat} (hf : f ≤ k) (hk : k < L.length) : L.take (k + 1) = L.take f ++ ((L.take k).drop f ++ [L[k]]) := by
  have e : L.take (k + 1) = L.take k ++ [L[k]] := take_next hk
  have e2 : L.take k = L.take f ++ (L.take k).drop f := by
    have := (List.take_append_drop f (L.take k)).symm
    rwa [List.take_take, Nat.min_eq_left hf] at this
  rw [e, ← List.append_assoc, ← e2]
theorem BAt.seg {B b M : Nat} {acc : List UInt8} {o : Bool} {s L : List UInt8} {f k : Nat} {w wr : World} (h : BAt B b M acc o s L f k w wr) (hk : k < L.length) :
    dat o s (L.take (k + 1)) = dat o s (L.take f) ++ (if opn o (L.take f) then [] else s) ++ ((L.take k).drop f ++ [L[k]]) ∧ opn o (L.take (k + 1)) = (L[k] != 10) := by
  rw [seg_split h.le hk]
  constructor
  · rw [dat_app, dat_seg _ _ _ _ h.no, ← List.append_assoc]
  · rw [← List.append_assoc, opn_snoc]
theorem BAt.next {B b M : Nat} {acc : List UInt8} {o o' : Bool} {s L : List UInt8} {k : Nat} {w wr : World} (hk : k < L.length) (h : WrPost B b M acc (dat o s (L.take (k + 1))) o' w wr) (ho : opn o (L.take (k + 1)) = o') : BAt B b M acc o s L (k + 1) (k + 1) w wr :=
  ⟨ho ▸ h, Nat.le_refl _, fun x hx => by (rw [List.drop_of_length_le (by rw [List.length_take]; omega)] at hx; cases hx), fun _ => rfl⟩
theorem seg_text (s : ByteArray) (f k : Nat) (hf : f ≤ k) (hk : k < s.size) : s.extract f (k + 1) = ⟨((s.data.toList.take k).drop f ++ [s[k]]).toArray⟩ := by
  have h1 : k < s.data.toList.length := hk
  have e : s.data.toList.take (k + 1) = s.data.toList.take k ++ [s.data.toList[k]] := take_next h1
  have e3 : (s.data.toList.take (k + 1)).drop f = (s.data.toList.take k).drop f ++ [s[k]] := by
    rw [e, List.drop_append_of_le_length (by rw [List.length_take]; omega)]; rfl
  rw [← e3]
  apply ByteArray.ext
  rw [ByteArray.data_extract]
  apply Array.ext'
  rw [Array.toList_extract]
  simp [List.drop_take]

set_option maxRecDepth 100000 in
set_option maxHeartbeats 4000000 in
theorem writeBytes_calls (B b M : Nat) (acc : List UInt8) (o : Bool) (n : Int) (s : ByteArray) (w : World) (hM : Months w) (hd : Bd B b acc w) (hm : Mk M o w) (h0 : 0 < B) (hB : B ≤ w.heap.size) (hlen : acc.length + s.size * 23 ≤ 1099511627776) :
    Calls Tryd.prog 21 #[.pointer (some ⟨M, 0, none⟩), .pointer (some ⟨b, 0, none⟩), .int .i64 n, .string s] w (EndPost B b M acc (dat o (st n) s.data.toList) (opn o s.data.toList) w) := by
  have H0 := Lib.hid (show BAt B b M acc o (st n) s.data.toList 0 0 w w from ⟨WrPost.start hd hm hM h0 hB, Nat.le_refl _, by simp, fun _ => rfl⟩)
  have hs := st_le n
  have hlL : s.data.toList.length = s.size := rfl
  have HL := Lib.hid hlL
  have HD := Lib.hid fun f => dat_le o (st n) (s.data.toList.take f)
  have HR := Lib.hid hlen
  have q0 : (s.size : Int) ≤ 1099511627776 := by omega
  clear hd hm hM hlen hlL
  go_enter Tryd.func21, Tryd.ntmps21
  go_wp2_with fail
  go_step3
  go_wp2_with fail
  go_step3
  go_wp2_with fail
  go_loopw [8, 13] (fun g i wr => ∃ f k : Nat, k ≤ s.size ∧ i = .int .i64 k ∧ g = .int .i64 f ∧ BAt B b M acc o (st n) s.data.toList f k w wr) (fun _ i _ => s.size - (intOf i).toNat)
  case atStart => exact ⟨0, 0, by omega, rfl, rfl, H0.out⟩
  case round =>
    obtain ⟨f, k, hk, rfl, rfl, C⟩ := hrel
    clear H0
    rcases Nat.lt_or_eq_of_le hk with hlt | rfl
    · have q1 : (k : Int) < (s.size : Int) := by omega
      have hf := C.le
      have hk1 : k < s.data.toList.length := hlt
      have hdl : (dat o (st n) (s.data.toList.take f)).length ≤ k * 23 := by
        have h1 := HD.out f
        rw [List.length_take] at h1
        exact Nat.le_trans h1 (Nat.mul_le_mul (by omega) (by omega))
      have ST := Lib.hid (seg_text s f k hf hlt)
      obtain ⟨e1, e2⟩ := C.seg hk1
      have hgl : ((s.data.toList.take k).drop f ++ [s.data.toList[k]]).length ≤ k + 1 := by simp; omega
      obtain ⟨c, hc⟩ : ∃ c, s.data.toList[k] = c := ⟨_, rfl⟩
      have hc2 : s[k] = c := hc
      rw [hc] at e1 e2 hgl
      rw [hc2] at ST
      have HSK := Lib.hid fun (a : k + 1 < s.size) (b : c ≠ 10) => C.skip a (by rw [hc]; exact b)
      have NX := Lib.hid fun (o' : Bool) (wr : World) => BAt.next (B := B) (b := b) (M := M) (acc := acc) (o := o) (o' := o') (s := st n) (w := w) (wr := wr) hk1
      generalize (s.data.toList.take k).drop f ++ [c] = G at *
      rw [e1, e2] at NX
      have hR := HR.out
      have hcp := C.post
      have hgsz : (⟨G.toArray⟩ : ByteArray).size = G.length := List.size_toArray ..
      have c0 := hcp.mkr.cell
      have C0 := Lib.hid hcp
      clear hcp C e1 e2
      generalize dat o (st n) (s.data.toList.take f) = T at *
      generalize opn o (s.data.toList.take f) = oo at *
      by_cases h10 : c.toNat = 10
      · have b1 : ((c.toNat : Int) == 10) = true := by simp [h10]
        have b2 : (c != 10) = false := by simpa using UInt8.toNat_inj.1 h10
        rw [b2] at NX
        clear h10 HSK
        cases oo with
        | false =>
          simp only [Bool.false_eq_true, if_false] at NX
          go_wp2_with fail
          refine (C0.out.stamp n).mono ?_
          rintro e w1 ⟨rfl, h1⟩
          have C1 := Lib.hid h1
          clear h1 C0 c0
          go_wp2_with fail
          refine (C1.out.wstr (by rw [app_len]; omega)).mono ?_
          rintro e w2 ⟨rfl, h1⟩
          have C2 := Lib.hid h1
          clear h1 C1
          go_wp2_with fail
          rw [ST.out]
          refine (C2.out.wstr (by simp only [app_len]; omega)).mono ?_
          rintro e w3 ⟨rfl, h1⟩
          have c1 := h1.mkr.cell
          have f1 := h1.mkr.froz
          have l1 := at_lt h1.mkr
          have C3 := Lib.hid (NX.out false _ (h1.set false) rfl)
          clear h1 C2
          go_wp2_with fail
          go_roundw
          case rel => exact ⟨k + 1, k + 1, by omega, by go_num, by go_num, C3.out⟩
          case measure => simp [intOf]; omega
        | true =>
          simp only [if_true, List.append_nil] at NX
          go_wp2_with fail
          rw [ST.out]
          refine (C0.out.wstr (by simp only [app_len]; omega)).mono ?_
          rintro e w3 ⟨rfl, h1⟩
          have c1 := h1.mkr.cell
          have f1 := h1.mkr.froz
          have l1 := at_lt h1.mkr
          have C3 := Lib.hid (NX.out false _ (h1.set false) rfl)
          clear h1 C0 c0
          go_wp2_with fail
          go_roundw
          case rel => exact ⟨k + 1, k + 1, by omega, by go_num, by go_num, C3.out⟩
          case measure => simp [intOf]; omega
      · have b1 : ((c.toNat : Int) == 10) = false := by
          have : ¬ (c.toNat : Int) = 10 := by omega
          simpa using this
        have b3 : c ≠ 10 := fun e => h10 (by rw [e]; rfl)
        have b2 : (c != 10) = true := by simpa using b3
        rw [b2] at NX
        by_cases hk2 : k + 1 < s.size
        · have q2 : (k : Int) + 1 < (s.size : Int) := by omega
          have C3 := Lib.hid (HSK.out hk2 b3)
          clear h10 HSK b3 b2 NX C0 c0
          go_wp2_with fail
          go_roundw
          case rel => exact ⟨f, k + 1, by omega, by go_num, rfl, C3.out⟩
          case measure => simp [intOf]; omega
        · have q2 : (s.size : Int) ≤ (k : Int) + 1 := by omega
          clear h10 HSK b3 b2 hk2
          cases oo with
          | false =>
            simp only [Bool.false_eq_true, if_false] at NX
            go_wp2_with fail
            refine (C0.out.stamp n).mono ?_
            rintro e w1 ⟨rfl, h1⟩
            have C1 := Lib.hid h1
            clear h1 C0 c0
            go_wp2_with fail
            refine (C1.out.wstr (by rw [app_len]; omega)).mono ?_
            rintro e w2 ⟨rfl, h1⟩
            have C2 := Lib.hid h1
            clear h1 C1
            go_wp2_with fail
            rw [ST.out]
            refine (C2.out.wstr (by simp only [app_len]; omega)).mono ?_
            rintro e w3 ⟨rfl, h1⟩
            have c1 := h1.mkr.cell
            have f1 := h1.mkr.froz
            have l1 := at_lt h1.mkr
            have C3 := Lib.hid (NX.out true _ (h1.set true) rfl)
            clear h1 C2
            go_wp2_with fail
            go_roundw
            case rel => exact ⟨k + 1, k + 1, by omega, by go_num, by go_num, C3.out⟩
            case measure => simp [intOf]; omega
          | true =>
            simp only [if_true, List.append_nil] at NX
            go_wp2_with fail
            rw [ST.out]
            refine (C0.out.wstr (by simp only [app_len]; omega)).mono ?_
            rintro e w3 ⟨rfl, h1⟩
            have c1 := h1.mkr.cell
            have f1 := h1.mkr.froz
            have l1 := at_lt h1.mkr
            have C3 := Lib.hid (NX.out true _ (h1.set true) rfl)
            clear h1 C0 c0
            go_wp2_with fail
            go_roundw
            case rel => exact ⟨k + 1, k + 1, by omega, by go_num, by go_num, C3.out⟩
            case measure => simp [intOf]; omega
    · have hf := C.end_ HL.out.symm
      subst hf
      have hp := C.post
      rw [List.take_of_length_le (Nat.le_of_eq HL.out)] at hp
      have HP := Lib.hid hp
      clear hp C
      go_wp2_with fail
      simp only [Exit.noGoto]
      go_end0
      exact ⟨rfl, HP.out⟩
end Go.Proofs.YtbjlnaobmgbpfaaDoor.Mark

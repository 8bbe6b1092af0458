/-
Layer 8 (record): items as bytes; plain Lean.
Layer 7 (sum): the document's own answers, walked.
Layer 7 (sum): the program's is, of, Of, walked.
Layer 7 (sum): the program's Put, walked.
Layer 7 (sum): the program's Fits, walked.
Layer 8 (record): Check, Len, the numbers that bytes tell, walked.
Layer 8 (record): the head of an item, walked.
Layer 8 (record): Read, walked.
Items in memory: as cells, in a slice, as an argument.
Layer 8 (record): Scan, walked.
Layer 23 (restore), plain: what generations tell: items, torn bytes, how many were lost.
-/
import Derived.Test.YtngangdjbbbbdaaGreatDoorPack3
import Derived.WalkKit
import Derived.WalkSpells
import Derived.Deep.RegionHeld3
import Derived.Test.YtngangdjbbbbdaaGreatDoorProg
import Derived.Lib.Hide
import Derived.Laws.BitsLemmas
import Derived.WalkSmall
import Derived.Deep.Draws
import Derived.Deep.QuietTactic
import Derived.BigQuiet
import Derived.StillTailTactics
import Derived.Laws.Slices
import Derived.IntWalk
import Derived.Deep.DeepCutAuto
import Derived.Lib.SmallJoins
section
namespace Go.Proofs.YtngangdjbbbbdaaGreatDoor.Rec
open Go.Proofs.YtngangdjbbbbdaaGreatDoor.Sum

/-! numbers as so many bytes, the highest first -/
def dig : Nat → Int → List UInt8
  | 0, _ => []
  | w + 1, n => dig w (n / 256) ++ [byteI (n % 256)]
theorem dig_len (w : Nat) : ∀ n, (dig w n).length = w := by
  induction w with
  | zero => intro n; rfl
  | succ w ih => intro n; simp [dig, ih]
theorem be_app1 (l : List UInt8) (c : UInt8) : be (l ++ [c]) = be l * 256 + (c.toNat : Int) := by unfold be; rw [List.foldl_append]; rfl
theorem be_dig (w : Nat) : ∀ n : Int, 0 ≤ n → n < 256 ^ w → be (dig w n) = n := by
  induction w with
  | zero => intro n h0 h1; rw [Int.pow_zero] at h1; show (0 : Int) = n; omega
  | succ w ih =>
    intro n h0 h1
    rw [Int.pow_succ] at h1
    rw [dig, be_app1, ih _ (by omega) (by omega), byteI_back (by omega) (by omega)]
    omega
theorem rev_ind {P : List UInt8 → Prop} (h0 : P []) (h1 : ∀ l c, P l → P (l ++ [c])) (l : List UInt8) : P l := by
  rw [← List.reverse_reverse l]
  induction l.reverse with
  | nil => exact h0
  | cons c r ih => rw [List.reverse_cons]; exact h1 _ _ ih
theorem be_bounds (l : List UInt8) : 0 ≤ be l ∧ be l < 256 ^ l.length := by
  refine rev_ind (P := fun l => 0 ≤ be l ∧ be l < 256 ^ l.length) ?_ ?_ l
  · exact ⟨Int.le_refl _, by show (0 : Int) < 1; omega⟩
  · intro l c ih
    rw [be_app1, List.length_append, List.length_singleton, Int.pow_succ]
    have := c.toNat_lt
    omega
theorem byteI_toNat (c : UInt8) : byteI (c.toNat : Int) = c := by
  apply UInt8.toNat_inj.1
  have := byteI_back (n := (c.toNat : Int)) (by omega) (by have := c.toNat_lt; omega)
  omega
theorem dig_be (l : List UInt8) : dig l.length (be l) = l := by
  refine rev_ind (P := fun l => dig l.length (be l) = l) rfl ?_ l
  · intro l c ih
    have := c.toNat_lt
    rw [be_app1, List.length_append, List.length_singleton, dig, show (be l * 256 + (c.toNat : Int)) / 256 = be l by omega, ih, show (be l * 256 + (c.toNat : Int)) % 256 = (c.toNat : Int) by omega, byteI_toNat]
theorem be_inj {l m : List UInt8} (h : l.length = m.length) (e : be l = be m) : l = m := by rw [← dig_be l, ← dig_be m, h, e]

/-! items -/
def Itm.zero : Itm := ⟨0, 0, ByteArray.empty⟩
def chk (x : Itm) : Int := if x.k < 1 ∨ 15 < x.k then 1 else if x.a < 0 ∨ 1099511627776 < x.a then 2 else if 4096 < x.b.size then 5 else 0
theorem chk_ok {x : Itm} : chk x = 0 ↔ 1 ≤ x.k ∧ x.k ≤ 15 ∧ 0 ≤ x.a ∧ x.a ≤ 1099511627776 ∧ x.b.size ≤ 4096 := by
  unfold chk
  split
  · constructor <;> intro h <;> omega
  · split
    · constructor <;> intro h <;> omega
    · split
      · constructor <;> intro h <;> omega
      · constructor
        · intro _; omega
        · intro _; rfl
theorem chk_arg {x : Itm} (h : x.k < 1 ∨ 15 < x.k) : chk x = 1 := if_pos h
theorem chk_range {x : Itm} (h1 : 1 ≤ x.k) (h2 : x.k ≤ 15) (h : x.a < 0 ∨ 1099511627776 < x.a) : chk x = 2 := by unfold chk; rw [if_neg (by omega), if_pos h]
theorem chk_size {x : Itm} (h1 : 1 ≤ x.k) (h2 : x.k ≤ 15) (h3 : 0 ≤ x.a) (h4 : x.a ≤ 1099511627776) (h : 4096 < x.b.size) : chk x = 5 := by unfold chk; rw [if_neg (by omega), if_neg (by omega), if_pos h]
theorem chk_range_of (x : Itm) : 0 ≤ chk x ∧ chk x ≤ 5 := by
  unfold chk
  split
  · omega
  · split
    · omega
    · split <;> omega

def headL (x : Itm) : List UInt8 := 87 :: byteI x.k :: (dig 6 x.a ++ dig 2 (x.b.size : Int))
def noSum (x : Itm) : List UInt8 := headL x ++ x.b.data.toList
def bytesOf (x : Itm) : List UInt8 := noSum x ++ putL (sumOf (noSum x))
theorem head_len (x : Itm) : (headL x).length = 10 := by simp [headL, dig_len]
theorem noSum_len (x : Itm) : (noSum x).length = 10 + x.b.size := by rw [noSum, List.length_append, head_len]; rfl
theorem bytes_len (x : Itm) : (bytesOf x).length = 14 + x.b.size := by rw [bytesOf, List.length_append, noSum_len, put_sum, four_len]; omega
def putV (x : Itm) : List UInt8 := if chk x = 0 then bytesOf x else []
theorem putV_ok {x : Itm} (h : chk x = 0) : putV x = bytesOf x := if_pos h
theorem putV_no {x : Itm} (h : chk x ≠ 0) : putV x = [] := if_neg h

def flat (l : List Itm) : List UInt8 := l.flatMap bytesOf
def allC : List Itm → Int
  | [] => 0
  | x :: l => if chk x = 0 then allC l else chk x
def allV (l : List Itm) : List UInt8 := if allC l = 0 then flat l else []
theorem allC_ok {l : List Itm} (h : ∀ x ∈ l, chk x = 0) : allC l = 0 := by
  induction l with
  | nil => rfl
  | cons x l ih => rw [allC, if_pos (h x (by simp))]; exact ih fun y hy => h y (by simp [hy])
theorem all_one (x : Itm) : allC [x] = chk x ∧ allV [x] = putV x := by
  have e : allC [x] = chk x := by
    by_cases h : chk x = 0
    · rw [allC, if_pos h, h]; rfl
    · rw [allC, if_neg h]
  refine ⟨e, ?_⟩
  unfold allV putV
  rw [e]
  simp [flat]
def tot (l : List Itm) : Nat := (l.map fun x => 14 + x.b.size).sum
theorem flat_len (l : List Itm) : (flat l).length = tot l := by
  induction l with
  | nil => rfl
  | cons x l ih => simp [flat, tot, bytes_len] at ih ⊢; first | done | omega
theorem flat_cons (x : Itm) (l : List Itm) : flat (x :: l) = bytesOf x ++ flat l := by simp [flat]
theorem flat_app (l m : List Itm) : flat (l ++ m) = flat l ++ flat m := by simp [flat]
theorem tot_cons (x : Itm) (l : List Itm) : tot (x :: l) = 14 + x.b.size + tot l := by simp [tot]
theorem tot_app (l m : List Itm) : tot (l ++ m) = tot l + tot m := by simp [tot]
theorem tot_take {l : List Itm} {k : Nat} (h : k < l.length) : tot (l.take (k + 1)) = tot (l.take k) + (14 + l[k].b.size) := by
  rw [List.take_add_one, List.getElem?_eq_getElem h, tot_app]; simp [tot]
theorem tot_le {l : List Itm} (h : ∀ x ∈ l, x.b.size ≤ 4096) : tot l ≤ l.length * 4110 := by
  induction l with
  | nil => simp [tot]
  | cons x l ih =>
    have h1 := h x (by simp)
    have := ih fun y hy => h y (by simp [hy])
    rw [tot_cons, List.length_cons]; omega
theorem tot_take_le (l : List Itm) (k : Nat) : tot (l.take k) ≤ tot l := by
  conv => rhs; rw [← List.take_append_drop k l, tot_app]
  omega

/-! read -/
def kd (l : List UInt8) : Int := ((l.getD 1 0).toNat : Int)
def at_ (l : List UInt8) : Int := be ((l.drop 2).take 6)
def ln (l : List UInt8) : Int := be ((l.drop 8).take 2)
def hdI (l : List UInt8) : Itm := ⟨kd l, at_ l, ByteArray.empty⟩
def hdC (l : List UInt8) : Int :=
  if l = [] then 13 else if l.head? ≠ some 87 then 3 else if l.length < 10 then 13 else if chk (hdI l) ≠ 0 then chk (hdI l) else if 4096 < ln l then 5 else 0
def hdX (l : List UInt8) : Itm := if hdC l = 0 then hdI l else .zero
def hdN (l : List UInt8) : Int := if hdC l = 0 then ln l else 0
def bodyL (l : List UInt8) : List UInt8 := (l.drop 10).take (ln l).toNat
def rdI (l : List UInt8) : Itm := ⟨kd l, at_ l, ⟨(bodyL l).toArray⟩⟩
def rdC (l : List UInt8) : Int := if hdC l ≠ 0 then hdC l else if (l.length : Int) < 14 + ln l then 13 else if fits (l.take (14 + (ln l).toNat)) = true then 0 else 4
def rdX (l : List UInt8) : Itm := if rdC l = 0 then rdI l else .zero
def rdN (l : List UInt8) : Int := if rdC l = 0 then 14 + ln l else 0
theorem ln_range (l : List UInt8) : 0 ≤ ln l ∧ ln l < 65536 := by
  have h := be_bounds ((l.drop 8).take 2)
  have h2 : ((l.drop 8).take 2).length ≤ 2 := by simp; omega
  have h3 : ((l.drop 8).take 2).length = 0 ∨ ((l.drop 8).take 2).length = 1 ∨ ((l.drop 8).take 2).length = 2 := by omega
  refine ⟨h.1, Int.lt_of_lt_of_le h.2 ?_⟩
  rcases h3 with e | e | e <;> rw [e] <;> decide
theorem at_range (l : List UInt8) : 0 ≤ at_ l ∧ at_ l < 281474976710656 := by
  have h := be_bounds ((l.drop 2).take 6)
  have h2 : ((l.drop 2).take 6).length ≤ 6 := by simp; omega
  have h3 : ∀ k : Nat, k ≤ 6 → (256 : Int) ^ k ≤ 281474976710656 := by
    intro k hk
    have : k = 0 ∨ k = 1 ∨ k = 2 ∨ k = 3 ∨ k = 4 ∨ k = 5 ∨ k = 6 := by omega
    rcases this with rfl | rfl | rfl | rfl | rfl | rfl | rfl <;> decide
  exact ⟨h.1, Int.lt_of_lt_of_le h.2 (h3 _ h2)⟩
theorem hd_nil : hdC [] = 13 := rfl
theorem hd_form {l : List UInt8} (h0 : l ≠ []) (h : l.head? ≠ some 87) : hdC l = 3 := by rw [hdC, if_neg h0, if_pos h]
theorem hd_short {l : List UInt8} (h0 : l ≠ []) (h : l.head? = some 87) (h1 : l.length < 10) : hdC l = 13 := by rw [hdC, if_neg h0, if_neg (by simpa using h), if_pos h1]
theorem hd_chk {l : List UInt8} (h : l.head? = some 87) (h1 : 10 ≤ l.length) (h2 : chk (hdI l) ≠ 0) : hdC l = chk (hdI l) := by
  rw [hdC, if_neg (by rintro rfl; simp at h1), if_neg (by simpa using h), if_neg (by omega), if_pos h2]
theorem hd_size {l : List UInt8} (h : l.head? = some 87) (h1 : 10 ≤ l.length) (h2 : chk (hdI l) = 0) (h3 : 4096 < ln l) : hdC l = 5 := by
  rw [hdC, if_neg (by rintro rfl; simp at h1), if_neg (by simpa using h), if_neg (by omega), if_neg (by simpa using h2), if_pos h3]
theorem hd_ok {l : List UInt8} (h : l.head? = some 87) (h1 : 10 ≤ l.length) (h2 : chk (hdI l) = 0) (h3 : ln l ≤ 4096) : hdC l = 0 := by
  rw [hdC, if_neg (by rintro rfl; simp at h1), if_neg (by simpa using h), if_neg (by omega), if_neg (by simpa using h2), if_neg (by omega)]
theorem hd_inv {l : List UInt8} (h : hdC l = 0) : l.head? = some 87 ∧ 10 ≤ l.length ∧ chk (hdI l) = 0 ∧ ln l ≤ 4096 := by
  unfold hdC at h
  split at h
  · omega
  · split at h
    · omega
    · split at h
      · omega
      · split at h
        · contradiction
        · split at h
          · omega
          · rename_i h1 h2 h3 h4 h5
            exact ⟨by simpa using h2, by omega, by simpa using h4, by omega⟩
theorem rd_hd {l : List UInt8} (h : hdC l ≠ 0) : rdC l = hdC l := if_pos h
theorem rd_cut {l : List UInt8} (h : hdC l = 0) (h1 : (l.length : Int) < 14 + ln l) : rdC l = 13 := by rw [rdC, if_neg (by simpa using h), if_pos h1]
theorem rd_sum {l : List UInt8} (h : hdC l = 0) (h1 : 14 + ln l ≤ (l.length : Int)) (h2 : fits (l.take (14 + (ln l).toNat)) = false) : rdC l = 4 := by
  rw [rdC, if_neg (by simpa using h), if_neg (by omega), if_neg (by rw [h2]; simp)]
theorem rd_ok {l : List UInt8} (h : hdC l = 0) (h1 : 14 + ln l ≤ (l.length : Int)) (h2 : fits (l.take (14 + (ln l).toNat)) = true) : rdC l = 0 := by
  rw [rdC, if_neg (by simpa using h), if_neg (by omega), if_pos h2]
theorem rd_inv {l : List UInt8} (h : rdC l = 0) : hdC l = 0 ∧ 14 + ln l ≤ (l.length : Int) ∧ fits (l.take (14 + (ln l).toNat)) = true := by
  unfold rdC at h
  split at h
  · contradiction
  · split at h
    · omega
    · split at h
      · rename_i h1 h2 h3
        exact ⟨by simpa using h1, by omega, h3⟩
      · omega
theorem rd_some {l : List UInt8} (h : rdC l = 0) : rdX l = rdI l ∧ rdN l = 14 + ln l := ⟨if_pos h, if_pos h⟩
theorem rd_none {l : List UInt8} (h : rdC l ≠ 0) : rdX l = .zero ∧ rdN l = 0 := ⟨if_neg h, if_neg h⟩
theorem hd_some {l : List UInt8} (h : hdC l = 0) : hdX l = hdI l ∧ hdN l = ln l := ⟨if_pos h, if_pos h⟩
theorem hd_none {l : List UInt8} (h : hdC l ≠ 0) : hdX l = .zero ∧ hdN l = 0 := ⟨if_neg h, if_neg h⟩
theorem chk_hdI {l : List UInt8} : chk (hdI l) = 0 ↔ 1 ≤ kd l ∧ kd l ≤ 15 ∧ at_ l ≤ 1099511627776 := by
  have := at_range l
  rw [chk_ok]
  show 1 ≤ kd l ∧ kd l ≤ 15 ∧ 0 ≤ at_ l ∧ at_ l ≤ 1099511627776 ∧ 0 ≤ 4096 ↔ _
  omega
theorem chk_rdI {l : List UInt8} (h : hdC l = 0) : chk (rdI l) = 0 := by
  obtain ⟨_, _, h2, h3⟩ := hd_inv h
  have := chk_hdI.1 h2
  have h4 := at_range l
  have h5 := ln_range l
  rw [chk_ok]
  refine ⟨this.1, this.2.1, h4.1, this.2.2, ?_⟩
  show (bodyL l).length ≤ 4096
  unfold bodyL
  simp
  omega

/-! what begins with an item's head -/
theorem hd_of {x : Itm} (hx : chk x = 0) (m : List UInt8) : hdC (headL x ++ m) = 0 ∧ kd (headL x ++ m) = x.k ∧ at_ (headL x ++ m) = x.a ∧ ln (headL x ++ m) = (x.b.size : Int) := by
  obtain ⟨k0, k1, a0, a1, b1⟩ := chk_ok.1 hx
  have e1 : kd (headL x ++ m) = x.k := by
    show ((byteI x.k).toNat : Int) = x.k
    exact byteI_back (by omega) (by omega)
  have e2 : at_ (headL x ++ m) = x.a := by
    have : (headL x ++ m).drop 2 = dig 6 x.a ++ (dig 2 (x.b.size : Int) ++ m) := by
      show (dig 6 x.a ++ dig 2 (x.b.size : Int)) ++ m = _
      rw [List.append_assoc]
    rw [at_, this, List.take_left' (dig_len 6 _), be_dig 6 _ a0 (by show x.a < 281474976710656; omega)]
  have e3 : ln (headL x ++ m) = (x.b.size : Int) := by
    have : (headL x ++ m).drop 8 = dig 2 (x.b.size : Int) ++ m := by
      show ((dig 6 x.a ++ dig 2 (x.b.size : Int)) ++ m).drop 6 = _
      rw [List.append_assoc, List.drop_left' (dig_len 6 _)]
    rw [ln, this, List.take_left' (dig_len 2 _), be_dig 2 _ (by omega) (by show _ < (65536 : Int); omega)]
  refine ⟨hd_ok rfl (by rw [List.length_append, head_len]; omega) (chk_hdI.2 (by rw [e1, e2]; omega)) (by rw [e3]; omega), e1, e2, e3⟩
theorem bytes_app (x : Itm) (m : List UInt8) : bytesOf x ++ m = headL x ++ (x.b.data.toList ++ (putL (sumOf (noSum x)) ++ m)) := by
  simp only [bytesOf, noSum, List.append_assoc]
theorem read_put {x : Itm} (hx : chk x = 0) (m : List UInt8) : rdC (bytesOf x ++ m) = 0 ∧ rdX (bytesOf x ++ m) = x ∧ rdN (bytesOf x ++ m) = 14 + (x.b.size : Int) := by
  have hl := bytes_len x
  obtain ⟨h0, h1, h2, h3⟩ := hd_of hx (x.b.data.toList ++ (putL (sumOf (noSum x)) ++ m))
  rw [← bytes_app] at h0 h1 h2 h3
  have hr : rdC (bytesOf x ++ m) = 0 := by
    refine rd_ok h0 (by rw [h3, List.length_append, hl]; omega) ?_
    rw [h3, show 14 + ((x.b.size : Int)).toNat = (bytesOf x).length by rw [hl]; omega, List.take_left]
    exact fits_put _
  obtain ⟨e1, e2⟩ := rd_some hr
  refine ⟨hr, ?_, by rw [e2, h3]⟩
  rw [e1]
  unfold rdI
  have hb : bodyL (bytesOf x ++ m) = x.b.data.toList := by
    unfold bodyL
    rw [h3, bytes_app, List.drop_left' (head_len x), List.take_left' (by show x.b.data.toList.length = _; rw [Array.length_toList]; show x.b.data.size = ((x.b.data.size : Int)).toNat; omega)]
  rw [h1, h2, hb, Array.toArray_toList]
theorem read_cut {x : Itm} (hx : chk x = 0) {j : Nat} (hj : j < 14 + x.b.size) (m : List UInt8) : rdC ((bytesOf x ++ m).take j) ≠ 0 := by
  intro h
  obtain ⟨h0, h1, h2⟩ := rd_inv h
  obtain ⟨_, h3, _, _⟩ := hd_inv h0
  have hl := bytes_len x
  have hj10 : 10 ≤ j := by rw [List.length_take] at h3; omega
  have e : (bytesOf x ++ m).take j = headL x ++ (x.b.data.toList ++ (putL (sumOf (noSum x)) ++ m)).take (j - 10) := by
    rw [bytes_app, List.take_append, head_len, List.take_of_length_le (by rw [head_len]; omega)]
  obtain ⟨_, _, _, g⟩ := hd_of hx ((x.b.data.toList ++ (putL (sumOf (noSum x)) ++ m)).take (j - 10))
  rw [← e] at g
  rw [g, List.length_take, List.length_append, hl] at h1
  omega

/-! an item that is read, put again -/
theorem head_back {l : List UInt8} (h : hdC l = 0) (h1 : 14 + ln l ≤ (l.length : Int)) : headL (rdI l) = l.take 10 := by
  obtain ⟨h2, h3, h4, h5⟩ := hd_inv h
  have hl := ln_range l
  match l, h2, h3 with
  | a :: b :: r, h2, h3 =>
    obtain rfl : a = 87 := by simpa using h2
    have hr : 8 ≤ r.length := by simpa using h3
    have e1 : byteI (kd (87 :: b :: r)) = b := byteI_toNat b
    have e2 : dig 6 (at_ (87 :: b :: r)) = r.take 6 := by
      have := dig_be (r.take 6)
      rw [List.length_take, Nat.min_eq_left (by omega)] at this
      exact this
    have e3 : ((rdI (87 :: b :: r)).b.size : Int) = ln (87 :: b :: r) := by
      show ((bodyL (87 :: b :: r)).length : Int) = _
      unfold bodyL
      rw [List.length_take, List.length_drop]
      omega
    have e4 : dig 2 (ln (87 :: b :: r)) = (r.drop 6).take 2 := by
      have := dig_be ((r.drop 6).take 2)
      rw [List.length_take, List.length_drop, Nat.min_eq_left (by omega)] at this
      exact this
    unfold headL
    rw [e3, e4]
    show 87 :: byteI (kd (87 :: b :: r)) :: (dig 6 (at_ (87 :: b :: r)) ++ _) = _
    rw [e1, e2, ← List.take_add]
    rfl
theorem put_back {l : List UInt8} (h : hdC l = 0) (h1 : 14 + ln l ≤ (l.length : Int)) : (l.take (14 + (ln l).toNat) = bytesOf (rdI l)) ↔ fits (l.take (14 + (ln l).toNat)) = true := by
  have hl := ln_range l
  have e0 : noSum (rdI l) = l.take (10 + (ln l).toNat) := by
    rw [noSum, head_back h h1, List.take_add]; rfl
  have el : (l.take (14 + (ln l).toNat)).length = 14 + (ln l).toNat := by rw [List.length_take]; omega
  have e1 : (l.take (14 + (ln l).toNat)).take (10 + (ln l).toNat) = noSum (rdI l) := by rw [e0, List.take_take, Nat.min_eq_left (by omega)]
  rw [fits_long (by omega), el, show 14 + (ln l).toNat - 4 = 10 + (ln l).toNat by omega, e1, beq_iff_eq]
  conv => lhs; lhs; rw [← List.take_append_drop (10 + (ln l).toNat) (l.take (14 + (ln l).toNat)), e1]
  rw [bytesOf, List.append_cancel_left_eq]
  exact eq_comm

/-! one behind the other -/
set_option linter.unusedVariables false in
def scan (l : List UInt8) : List Itm × Int :=
  if h : rdC l = 0 then (rdX l :: (scan (l.drop (14 + (ln l).toNat))).1, rdN l + (scan (l.drop (14 + (ln l).toNat))).2) else ([], 0)
termination_by l.length
decreasing_by
  all_goals
    have := (rd_inv h).2.1
    have := ln_range l
    rw [List.length_drop]; omega
theorem scan_ok {l : List UInt8} (h : rdC l = 0) : scan l = (rdX l :: (scan (l.drop (14 + (ln l).toNat))).1, rdN l + (scan (l.drop (14 + (ln l).toNat))).2) := by
  rw [scan, dif_pos h]
theorem scan_no {l : List UInt8} (h : rdC l ≠ 0) : scan l = ([], 0) := by rw [scan, dif_neg h]
/-- how many items are there whole -/
def fitn : List Itm → Nat → Nat
  | [], _ => 0
  | x :: l, j => if 14 + x.b.size ≤ j then fitn l (j - (14 + x.b.size)) + 1 else 0
theorem fitn_le (l : List Itm) : ∀ j, fitn l j ≤ l.length := by
  induction l with
  | nil => intro j; exact Nat.le_refl _
  | cons x l ih =>
    intro j
    rw [fitn]; split
    · have := ih (j - (14 + x.b.size)); simp; omega
    · omega
theorem scan_torn {l : List Itm} (h : ∀ x ∈ l, chk x = 0) : ∀ j, scan ((flat l).take j) = (l.take (fitn l j), ((tot (l.take (fitn l j)) : Nat) : Int)) := by
  induction l with
  | nil => intro j; show scan (([] : List UInt8).take j) = _; rw [List.take_nil, scan_no (by decide)]; rfl
  | cons x l ih =>
    intro j
    have hx := h x (by simp)
    have ih' := ih fun y hy => h y (by simp [hy])
    have hl := bytes_len x
    by_cases hj : 14 + x.b.size ≤ j
    · have e : (flat (x :: l)).take j = bytesOf x ++ (flat l).take (j - (14 + x.b.size)) := by
        rw [flat_cons, List.take_append, hl, List.take_of_length_le (by omega)]
      obtain ⟨r1, r2, r3⟩ := read_put hx ((flat l).take (j - (14 + x.b.size)))
      have e2 : 14 + (ln (bytesOf x ++ (flat l).take (j - (14 + x.b.size)))).toNat = (bytesOf x).length := by
        have := (rd_some r1).2
        rw [r3] at this
        rw [hl]; omega
      rw [e, scan_ok r1, e2, List.drop_left, r2, r3, ih', fitn, if_pos hj, List.take_succ_cons, tot_cons]
      congr 1
    · rw [flat_cons, scan_no (read_cut hx (by omega) _), fitn, if_neg hj]; rfl
theorem fitn_next (l : List Itm) : ∀ (j k : Nat) (hk : k < l.length), k ≤ fitn l j → (14 + (l[k]'hk).b.size + tot (l.take k) ≤ j ↔ k < fitn l j) := by
  induction l with
  | nil => intro j k hk; simp at hk
  | cons x l ih =>
    intro j k hk hf
    cases k with
    | zero =>
      rw [fitn]
      split
      · rename_i h; simp [tot]; omega
      · rename_i h; simp [tot]; omega
    | succ k =>
      rw [fitn] at hf ⊢
      by_cases h : 14 + x.b.size ≤ j
      · rw [if_pos h] at hf ⊢
        have := ih (j - (14 + x.b.size)) k (by simpa using hk) (by omega)
        rw [List.take_succ_cons, tot_cons]
        show 14 + (l[k]'(by simpa using hk)).b.size + (14 + x.b.size + tot (l.take k)) ≤ j ↔ _
        omega
      · rw [if_neg h] at hf; omega

/-! a byte that was turned -/
theorem four_inj {m n : Int} (m0 : 0 ≤ m) (m1 : m < 2147483647) (n0 : 0 ≤ n) (n1 : n < 2147483647) (h : four m = four n) : m = n := by
  rw [← be_put m0 m1, ← be_put n0 n1, h]
theorem set_ne {l : List UInt8} {i : Nat} {c : UInt8} (hi : i < l.length) (hc : c ≠ l[i]) : l.set i c ≠ l := by
  intro e
  apply hc
  have : (l.set i c)[i]'(by simpa using hi) = c := by simp
  rw [← this]
  congr 1
theorem turned_far {x : Itm} (hx : chk x = 0) {i : Nat} {c : UInt8} (hi : i < (bytesOf x).length) (hc : c ≠ (bytesOf x)[i]) (h8 : i ≠ 8) (h9 : i ≠ 9) : rdC ((bytesOf x).set i c) ≠ 0 := by
  intro h
  obtain ⟨h0, h1, h2⟩ := rd_inv h
  obtain ⟨h3, _, _, _⟩ := hd_inv h0
  have hl := bytes_len x
  have hn := noSum_len x
  have hp : bytesOf x = headL x ++ (x.b.data.toList ++ (putL (sumOf (noSum x)) ++ [])) := by rw [← bytes_app, List.append_nil]
  by_cases hi0 : i = 0
  · subst hi0
    have e : (bytesOf x)[0] = 87 := by simp only [hp]; rfl
    rw [e] at hc
    rw [hp] at h3
    exact hc (by simpa [headL] using h3)
  · have e : ln ((bytesOf x).set i c) = (x.b.size : Int) := by
      have g := (hd_of hx (x.b.data.toList ++ (putL (sumOf (noSum x)) ++ []))).2.2.2
      rw [← hp] at g
      rw [← g]
      unfold ln
      congr 1
      rw [List.drop_set]
      split
      · rfl
      · rw [List.take_set, List.set_eq_of_length_le (by simp; omega)]
    rw [e, show 14 + ((x.b.size : Int)).toNat = 14 + x.b.size by omega, List.take_of_length_le (by simp; omega), fits_long (by simp; omega), List.length_set, hl, show 14 + x.b.size - 4 = 10 + x.b.size by omega, beq_iff_eq] at h2
    have t : (bytesOf x).take (10 + x.b.size) = noSum x := by rw [← hn, bytesOf, List.take_left]
    have d : (bytesOf x).drop (10 + x.b.size) = putL (sumOf (noSum x)) := by rw [← hn, bytesOf, List.drop_left]
    rw [List.take_set, t, List.drop_set, d] at h2
    by_cases hi1 : i < 10 + x.b.size
    · rw [if_pos hi1, put_sum, put_sum] at h2
      have r1 := sumOf_range ((noSum x).set i c)
      have r2 := sumOf_range (noSum x)
      have hs := four_inj r1.1 r1.2 r2.1 r2.2 h2
      have hi2 : i < (noSum x).length := by omega
      rw [turned hi2] at hs
      apply hc
      rw [hs]
      simp only [bytesOf]
      rw [List.getElem_append_left hi2]
    · rw [if_neg hi1, List.set_eq_of_length_le (by omega)] at h2
      have hi3 : i - (10 + x.b.size) < (putL (sumOf (noSum x))).length := by rw [put_sum, four_len]; omega
      refine set_ne hi3 ?_ h2.symm
      intro e2
      apply hc
      rw [e2]
      simp only [bytesOf]
      rw [List.getElem_append_right (by omega)]
      congr 1
      omega
theorem turned_near {x : Itm} (hx : chk x = 0) {i : Nat} {c : UInt8} (hi : i < (bytesOf x).length) (hc : c ≠ (bytesOf x)[i]) (h8 : i = 8 ∨ i = 9) (h : rdC ((bytesOf x).set i c) = 0) :
    (rdX ((bytesOf x).set i c)).b.size < x.b.size ∧ rdN ((bytesOf x).set i c) < 14 + (x.b.size : Int) := by
  obtain ⟨h0, h1, h2⟩ := rd_inv h
  obtain ⟨e1, e2⟩ := rd_some h
  have hl := bytes_len x
  have hp : bytesOf x = headL x ++ (x.b.data.toList ++ (putL (sumOf (noSum x)) ++ [])) := by rw [← bytes_app, List.append_nil]
  have g := (hd_of hx (x.b.data.toList ++ (putL (sumOf (noSum x)) ++ []))).2.2.2
  rw [← hp] at g
  have r := ln_range ((bytesOf x).set i c)
  have hne : ln ((bytesOf x).set i c) ≠ (x.b.size : Int) := by
    rw [← g]
    unfold ln
    rw [List.drop_set, if_neg (by omega), List.take_set]
    intro e
    have := be_inj (by simp) e
    have hi2 : i - 8 < (((bytesOf x).drop 8).take 2).length := by simp; omega
    refine set_ne hi2 ?_ this
    intro e3
    apply hc
    rw [e3]
    simp only [List.getElem_take, List.getElem_drop]
    congr 1
    omega
  rw [List.length_set, hl] at h1
  rw [e1, e2]
  refine ⟨?_, by omega⟩
  show (bodyL _).length < _
  unfold bodyL
  rw [List.length_take]
  omega

end Go.Proofs.YtngangdjbbbbdaaGreatDoor.Rec
end

section
namespace Go.Proofs.YtngangdjbbbbdaaGreatDoor.Sum
open Go.RowKit

theorem ret_string {a b : ByteArray} (h : a = b) : Ending.returned (.string a) = .returned (.string b) := by rw [h]
theorem ret_i64 {a b : Int} (h : a = b) : Ending.returned (.int .i64 a) = .returned (.int .i64 b) := by rw [h]
theorem ret_bool {a b : Bool} (h : a = b) : Ending.returned (.bool a) = .returned (.bool b) := by rw [h]
theorem ret_two {a b c d : Int} (h : a = b) (g : c = d) : Ending.returned (.tuple #[.int .i64 a, .int .i64 c]) = .returned (.tuple #[.int .i64 b, .int .i64 d]) := by rw [h, g]
theorem size_list (s : ByteArray) : s.data.toList.length = s.size := rfl

theorem sum_snoc (s : ByteArray) (k : Nat) (h : k < s.size) : sumOf (s.data.toList.take (k + 1)) = (257 * sumOf (s.data.toList.take k) + (s[k].toNat : Int) + 1) % 2147483647 := by
  rw [sumOf_take _ (by rw [size_list]; exact h)]; rfl

theorem four_bytes {P : Program} (W : World) (b : Nat) (x y z u : UInt8) (src dst e : TypeId) (hs : P.underlying src = some (.slice e)) (he : P.underlying e = some (.int .u8)) (hd : P.underlying dst = some .string)
    (hx : W.cell? ⟨b, 0, none⟩ = some (.int .u8 (x.toNat : Int))) (hy : W.cell? ⟨b, 1, none⟩ = some (.int .u8 (y.toNat : Int))) (hz : W.cell? ⟨b, 2, none⟩ = some (.int .u8 (z.toNat : Int))) (hu : W.cell? ⟨b, 3, none⟩ = some (.int .u8 (u.toNat : Int))) :
    (convert src dst (.slice (some ⟨b, 0, none⟩) 4 4)).run P W = .ok (.string ⟨#[x, y, z, u]⟩) W := by
  refine run_convert_bytes_back W src dst e ⟨b, 0, none⟩ 4 [x, y, z, u] hs he hd (fun j hj => ?_)
  match j, hj with
  | 0, _ => exact hx
  | 1, _ => exact hy
  | 2, _ => exact hz
  | 3, _ => exact hu
  | j + 4, hj => simp at hj; omega

end Go.Proofs.YtngangdjbbbbdaaGreatDoor.Sum
end

section
namespace Go.Proofs.YtngangdjbbbbdaaGreatDoor.Sum
open Go.RowKit

theorem is_calls (n : Int) (w : World) :
    Calls Tryz.prog 128 #[.int .i64 n] w fun e w' => e = .returned (.bool (isSum n)) ∧ w = w' := by
  by_cases h0 : 0 ≤ n
  · by_cases h1 : n < 2147483647
    · go_enter Tryz.func128, Tryz.ntmps128
      go_wp2_with fail
      go_ret
      exact ⟨ret_bool (by rw [isSum_iff.2 ⟨h0, h1⟩]), rfl⟩
    · go_enter Tryz.func128, Tryz.ntmps128
      go_wp2_with fail
      go_ret
      exact ⟨ret_bool (by rw [isSum_not.2 (by omega)]), rfl⟩
  · go_enter Tryz.func128, Tryz.ntmps128
    go_wp2_with fail
    go_ret
    exact ⟨ret_bool (by rw [isSum_not.2 (by omega)]), rfl⟩

set_option maxHeartbeats 400000 in
theorem of0_calls (s : ByteArray) (hs : s.size ≤ 9223372036854775807) (w : World) :
    Calls Tryz.prog 129 #[.string s] w fun e w' => e = .returned (.int .i64 (sumOf s.data.toList)) ∧ w = w' := by
  go_enter Tryz.func129, Tryz.ntmps129
  go_wp2_with fail
  go_loop [3, 7] (fun n i => ∃ k : Nat, k ≤ s.size ∧ i = .int .i64 k ∧ n = .int .i64 (sumOf (s.data.toList.take k))) (fun _ i => s.size - (intOf i).toNat)
  case atStart => exact ⟨0, Nat.zero_le _, rfl, rfl⟩
  case round =>
    obtain ⟨k, hk, rfl, rfl⟩ := hrel
    obtain ⟨hb1, hb2⟩ := sumOf_range (s.data.toList.take k)
    by_cases hlt : k < s.size
    · have HS := Lib.hid (sum_snoc s k hlt)
      have hc : (s[k].toNat : Int) < 256 := by have := s[k].toNat_lt; omega
      go_wp2_with fail
      go_round
      case rel => exact ⟨k + 1, by omega, by go_num, by rw [HS.out]⟩
      case measure => simp [intOf]; omega
    · have he : s.data.toList.take k = s.data.toList := List.take_of_length_le (by rw [size_list]; omega)
      rw [he] at *
      clear he
      go_wp2_with fail
      go_ret
      exact ⟨rfl, rfl⟩
theorem of_calls (s : ByteArray) (hs : s.size ≤ 9223372036854775807) (w : World) :
    Calls Tryz.prog 115 #[.string s] w fun e w' => e = .returned (.int .i64 (sumOf s.data.toList)) ∧ w = w' := by
  go_enter Tryz.func115, Tryz.ntmps115
  go_wp2_with (go_at_call 129; refine (of0_calls _ hs _).mono ?_; rintro e w' ⟨rfl, rfl⟩)
  go_ret
  exact ⟨rfl, rfl⟩

end Go.Proofs.YtngangdjbbbbdaaGreatDoor.Sum
end

section
namespace Go.Proofs.YtngangdjbbbbdaaGreatDoor.Sum
open Go.RowKit

theorem be_from (l : List UInt8) : ∀ m : List UInt8, be (l ++ m) = m.foldl (fun n b => n * 256 + (b.toNat : Int)) (be l) := fun m => by unfold be; rw [List.foldl_append]
theorem be_snoc (s : ByteArray) (k : Nat) (h : k < s.size) : be (s.data.toList.take (k + 1)) = be (s.data.toList.take k) * 256 + (s[k].toNat : Int) := by
  rw [List.take_add_one, List.getElem?_eq_getElem (by rw [size_list]; exact h), be_from]; rfl
theorem be_range (s : ByteArray) (k : Nat) (h : k ≤ s.size) : 0 ≤ be (s.data.toList.take k) ∧ be (s.data.toList.take k) < 256 ^ k := by
  induction k with
  | zero => exact ⟨Int.le_refl _, by show (0 : Int) < 1; omega⟩
  | succ k ih =>
    have := ih (by omega)
    have := s[k].toNat_lt
    rw [be_snoc s k h, Int.pow_succ]
    omega
theorem or_byte {x c : Int} (h0 : 0 ≤ x) (h1 : x < 4294967296) (c0 : 0 ≤ c) (c1 : c < 256) : bits .or .i64 (x * 256) c = x * 256 + c := by
  exact bits_join .i64 63 (by decide) (fun n a b => by rw [IntKind.wrap_i64]; omega) 8 _ _ (by omega) (by omega) (by omega) c0 (by omega) (by omega)

theorem set_cells {w : World} {b : Nat} {C : Array Value} {t : TypeId} (h : w.heap[b]? = some (.cells C t (0, 0))) (i : Nat) (v : Value) : (w.setCell ⟨b, i, none⟩ v).heap[b]? = some (.cells (C.setIfInBounds i v) t (0, 0)) := by
  have hlt := lt_of_block h
  have h' : w.heap[b] = .cells C t (0, 0) := by simpa [Array.getElem?_eq_getElem hlt] using h
  show (w.heap.modify b _)[b]? = _
  rw [Array.getElem?_eq_getElem (by simpa using hlt), Array.getElem_modify_self, h']
  rfl

theorem at_cell {w : World} {b i : Nat} {C : Array Value} {t : TypeId} {v : Value} (h : w.heap[b]? = some (.cells C t (0, 0))) (hv : C[i]? = some v) : w.cell? ⟨b, i, none⟩ = some v := by
  simp [World.cell?, h, hv]
theorem at_frozen {w : World} {b : Nat} {C : Array Value} {t : TypeId} (h : w.heap[b]? = some (.cells C t (0, 0))) (i : Nat) : w.frozen? ⟨b, i, none⟩ = false := by
  simp [World.frozen?, h]
/-- the array that a sum is put into, k bytes from its end filled -/
def PutAt (w : World) (n : Int) (k : Nat) (x : Value) (wr : World) : Prop :=
  ∃ a b c d : Int, wr.heap[w.heap.size]? = some (.cells #[.int .u8 a, .int .u8 b, .int .u8 c, .int .u8 d] 197 (0, 0)) ∧ Below w.heap.size w wr ∧
    ((k = 0 ∧ x = .int .i64 n) ∨ (k = 1 ∧ x = .int .i64 (n / 256) ∧ d = n % 256) ∨ (k = 2 ∧ x = .int .i64 (n / 65536) ∧ d = n % 256 ∧ c = n / 256 % 256) ∨
     (k = 3 ∧ x = .int .i64 (n / 16777216) ∧ d = n % 256 ∧ c = n / 256 % 256 ∧ b = n / 65536 % 256) ∨ (k = 4 ∧ x = .int .i64 (n / 16777216 / 256) ∧ d = n % 256 ∧ c = n / 256 % 256 ∧ b = n / 65536 % 256 ∧ a = n / 16777216 % 256))

set_option maxRecDepth 100000 in
set_option maxHeartbeats 400000 in
theorem put_calls (n : Int) (w : World) :
    Calls Tryz.prog 114 #[.int .i64 n] w fun e w' => e = .returned (.string ⟨(putL n).toArray⟩) ∧ Below w.heap.size w w' := by
  cases hq : isSum n
  · rw [put_none (isSum_not.1 hq)]
    go_enter Tryz.func114, Tryz.ntmps114
    go_wp2_with (go_at_call 128; refine (is_calls _ _).mono ?_; rintro e w' ⟨rfl, rfl⟩)
    go_ret
    exact ⟨rfl, Below.refl _ _⟩
  · obtain ⟨n0, n1⟩ := isSum_iff.1 hq
    rw [put_some n0 n1]
    go_enter Tryz.func114, Tryz.ntmps114
    go_wp2_with (go_at_call 128; refine (is_calls _ _).mono ?_; rintro e w' ⟨rfl, rfl⟩)
    clear hq
    go_loopw [0, 8] (fun x i wr => ∃ k : Nat, k ≤ 4 ∧ i = .int .i64 k ∧ PutAt w n k x wr) (fun _ i _ => 4 - (intOf i).toNat)
    case atStart => exact ⟨0, Nat.zero_le _, rfl, 0, 0, 0, 0, by show (w.heap.push _)[w.heap.size]? = _; simp, (Below.refl _ _).alloc (Nat.le_refl _) _, .inl ⟨rfl, rfl⟩⟩
    case round =>
      obtain ⟨k, hk, rfl, a, b, c, d, hh, hb, hk'⟩ := hrel
      rcases hk' with ⟨rfl, rfl⟩ | ⟨rfl, rfl, rfl⟩ | ⟨rfl, rfl, rfl, rfl⟩ | ⟨rfl, rfl, rfl, rfl, rfl⟩ | ⟨rfl, rfl, rfl, rfl, rfl, rfl⟩
      all_goals
        have HH := Lib.hid hh
        have x0 : wr.cell? ⟨w.heap.size, 0, none⟩ = some (.int .u8 _) := at_cell hh rfl
        have x1 : wr.cell? ⟨w.heap.size, 1, none⟩ = some (.int .u8 _) := at_cell hh rfl
        have x2 : wr.cell? ⟨w.heap.size, 2, none⟩ = some (.int .u8 _) := at_cell hh rfl
        have x3 : wr.cell? ⟨w.heap.size, 3, none⟩ = some (.int .u8 _) := at_cell hh rfl
        have f0 : wr.frozen? ⟨w.heap.size, 0, none⟩ = false := at_frozen hh 0
        have f1 : wr.frozen? ⟨w.heap.size, 1, none⟩ = false := at_frozen hh 1
        have f2 : wr.frozen? ⟨w.heap.size, 2, none⟩ = false := at_frozen hh 2
        have f3 : wr.frozen? ⟨w.heap.size, 3, none⟩ = false := at_frozen hh 3
        clear hh
      · have hn := set_cells HH.out 3 (.int .u8 (n % 256))
        have HN := Lib.hid hn; clear hn
        go_wp2_with fail
        go_roundw
        case rel => exact ⟨1, by omega, by go_num, a, b, c, _, HN.out, hb.setCell (Nat.le_refl _) _, .inr (.inl ⟨rfl, rfl, rfl⟩)⟩
        case measure => simp [intOf]
      · have hn := set_cells HH.out 2 (.int .u8 (n / 256 % 256))
        have HN := Lib.hid hn; clear hn
        go_wp2_with fail
        go_roundw
        case rel => exact ⟨2, by omega, by go_num, a, b, _, _, HN.out, hb.setCell (Nat.le_refl _) _, .inr (.inr (.inl ⟨rfl, by go_num, rfl, rfl⟩))⟩
        case measure => simp [intOf]
      · have hn := set_cells HH.out 1 (.int .u8 (n / 65536 % 256))
        have HN := Lib.hid hn; clear hn
        go_wp2_with fail
        go_roundw
        case rel => exact ⟨3, by omega, by go_num, a, _, _, _, HN.out, hb.setCell (Nat.le_refl _) _, .inr (.inr (.inr (.inl ⟨rfl, by go_num, rfl, rfl, rfl⟩)))⟩
        case measure => simp [intOf]
      · have hn := set_cells HH.out 0 (.int .u8 (n / 16777216))
        have HN := Lib.hid hn; clear hn
        go_wp2_with fail
        go_roundw
        case rel => exact ⟨4, by omega, by go_num, _, _, _, _, HN.out, hb.setCell (Nat.le_refl _) _, .inr (.inr (.inr (.inr ⟨rfl, by go_num, rfl, rfl, rfl, by omega⟩)))⟩
        case measure => simp [intOf]
      · have hcv := fun (W : World) (b : Nat) hx hy hz hu => four_bytes (P := Tryz.prog) W b (byteI (n / 16777216 % 256)) (byteI (n / 65536 % 256)) (byteI (n / 256 % 256)) (byteI (n % 256)) 58 9 5 Tryz.underlying58 Tryz.underlying5 Tryz.underlying9 hx hy hz hu
        rw [byteI_back (by omega) (by omega), byteI_back (by omega) (by omega), byteI_back (by omega) (by omega), byteI_back (by omega) (by omega)] at hcv
        go_wp2_with fail
        go_ret
        exact ⟨rfl, hb⟩

end Go.Proofs.YtngangdjbbbbdaaGreatDoor.Sum
end

section
namespace Go.Proofs.YtngangdjbbbbdaaGreatDoor.Sum
open Go.RowKit

theorem cut_to {P : Program} (t : TypeId) (ht : P.underlying t = some .string) (s : ByteArray) (j : Int) (h0 : 0 ≤ j) (h : j ≤ s.size) (W : World) :
    (Instr.sliceAt t (.string s) none (some (.int .i64 j)) none).run P W = .ok (.string (s.extract 0 j.toNat)) W := by
  rw [run_sliceAt_string W t _ _ _ _ ht, run_slice_string_to_if W t s .i64 j ht, if_pos ⟨h0, h⟩]
theorem cut_from {P : Program} (t : TypeId) (ht : P.underlying t = some .string) (s : ByteArray) (i : Int) (h0 : 0 ≤ i) (h : i ≤ s.size) (W : World) :
    (Instr.sliceAt t (.string s) (some (.int .i64 i)) none none).run P W = .ok (.string (s.extract i.toNat s.size)) W := by
  rw [run_sliceAt_string W t _ _ _ _ ht, run_slice_string_from_if W t s .i64 i ht, if_pos ⟨h0, h⟩]
theorem extract_list (s : ByteArray) (i j : Nat) : (s.extract i j).data.toList = (s.data.toList.take j).drop i := by
  simp [ByteArray.data_extract, Array.toList_extract, List.drop_take]

/-- a text's two parts -/
theorem fits_parts (s : ByteArray) (h : 4 ≤ s.size) : ∃ p q : ByteArray, Hid (p.size ≤ s.size) ∧
    (∀ W, (Instr.sliceAt 9 (.string s) none (some (.int .i64 ((s.size : Int) - 4))) none).run Tryz.prog W = .ok (.string p) W) ∧
    (∀ W, (Instr.sliceAt 9 (.string s) (some (.int .i64 ((s.size : Int) - 4))) none none).run Tryz.prog W = .ok (.string q) W) ∧
    Hid (fits s.data.toList = (putL (sumOf p.data.toList) == q.toList)) := by
  refine ⟨_, _, ?_, fun W => cut_to 9 Tryz.underlying9 s _ (by omega) (by omega) W, fun W => cut_from 9 Tryz.underlying9 s _ (by omega) (by omega) W, Lib.hid ?_⟩
  · exact Lib.hid (by simp [ByteArray.size_extract]; omega)
  · rw [fits_long (by rw [size_list]; exact h), ByteArray.toList_eq, extract_list, extract_list, size_list, show ((s.size : Int) - 4).toNat = s.size - 4 by omega, List.drop_zero, List.take_of_length_le (i := s.size) (by rw [size_list]; omega)]

set_option maxRecDepth 100000 in
set_option maxHeartbeats 400000 in
theorem fits_calls (s : ByteArray) (hs : s.size ≤ 9223372036854775807) (w : World) :
    Calls Tryz.prog 110 #[.string s] w fun e w' => e = .returned (.bool (fits s.data.toList)) ∧ Below w.heap.size w w' := by
  by_cases h : 4 ≤ s.size
  · obtain ⟨p, q, hp, h1, h2, hf⟩ := fits_parts s h
    have d1 : decide ((4 : Int) ≤ (s.size : Int)) = true := decide_eq_true (by omega)
    have d2 : decide ((0 : Int) ≤ (s.size : Int) - 4) = true := decide_eq_true (by omega)
    have hB : Hid (Below w.heap.size w w) := Lib.hid (Below.refl _ _)
    go_enter Tryz.func110, Tryz.ntmps110
    go_wp2_with fail
    go_region_held3 (fun w' => Below w.heap.size w w')
      (first
        | exact hB.out.drew
        | (exact Below.trans (by assumption) (hb5.mono (Below.size (by assumption))))
        | assumption)
      (first
        | (go_at_call 115; refine (of_calls _ (Nat.le_trans hp.out hs) _).mono ?_; rintro e w5 ⟨rfl, rfl⟩)
        | (go_at_call 114; refine (put_calls _ _).mono ?_; rintro e w5 ⟨rfl, hb5⟩))
    all_goals (go_wp2_with fail; go_ret; exact ⟨ret_bool (by rw [hf.out]; exact Bool.eq_iff_iff.2 (by rw [beq_iff_eq, beq_iff_eq, eq_comm])), by assumption⟩)
  · have h4 : s.size < 4 := by omega
    rw [fits_short (by rw [size_list]; exact h4)]
    have d1 : decide ((4 : Int) ≤ (s.size : Int)) = false := decide_eq_false (by omega)
    have d2 : decide ((0 : Int) ≤ (s.size : Int) - 4) = false := decide_eq_false (by omega)
    go_enter Tryz.func110, Tryz.ntmps110
    go_wp2_with fail
    go_quiet (fail)
    go_wp2_with fail
    go_ret
    exact ⟨rfl, below_drewN (Below.refl _ _) _⟩

end Go.Proofs.YtngangdjbbbbdaaGreatDoor.Sum
end

section
namespace Go.Proofs.YtngangdjbbbbdaaGreatDoor.Rec
open Go.RowKit Go.Proofs.YtngangdjbbbbdaaGreatDoor.Sum

/-- may a number be a tick? -/
def isT (n : Int) : Bool := decide (0 ≤ n) && decide (n ≤ 1099511627776)
theorem isT_iff {n : Int} : isT n = true ↔ 0 ≤ n ∧ n ≤ 1099511627776 := by simp [isT]
theorem isT_not {n : Int} : isT n = false ↔ n < 0 ∨ 1099511627776 < n := by
  rw [← Bool.not_eq_true, isT_iff]; omega
theorem ist_calls (n : Int) (w : World) :
    Calls Tryz.prog 74 #[.int .i64 n] w fun e w' => e = .returned (.bool (isT n)) ∧ w = w' := by
  by_cases h0 : 0 ≤ n
  · by_cases h1 : n ≤ 1099511627776
    · go_enter Tryz.func74, Tryz.ntmps74
      go_wp2
      go_ret
      exact ⟨ret_bool (by rw [isT_iff.2 ⟨h0, h1⟩]), rfl⟩
    · go_enter Tryz.func74, Tryz.ntmps74
      go_wp2
      go_ret
      exact ⟨ret_bool (by rw [isT_not.2 (by omega)]), rfl⟩
  · go_enter Tryz.func74, Tryz.ntmps74
    go_wp2
    go_ret
    exact ⟨ret_bool (by rw [isT_not.2 (by omega)]), rfl⟩

/-- the ways through an item's check -/
theorem chk_ways (k a : Int) (b : ByteArray) :
    (k < 1 ∧ chk ⟨k, a, b⟩ = 1) ∨ (1 ≤ k ∧ 15 < k ∧ chk ⟨k, a, b⟩ = 1) ∨ (1 ≤ k ∧ k ≤ 15 ∧ a < 0 ∧ chk ⟨k, a, b⟩ = 2) ∨ (1 ≤ k ∧ k ≤ 15 ∧ 0 ≤ a ∧ 1099511627776 < a ∧ chk ⟨k, a, b⟩ = 2) ∨
    (1 ≤ k ∧ k ≤ 15 ∧ 0 ≤ a ∧ a ≤ 1099511627776 ∧ 4096 < b.size ∧ chk ⟨k, a, b⟩ = 5) ∨ (1 ≤ k ∧ k ≤ 15 ∧ 0 ≤ a ∧ a ≤ 1099511627776 ∧ b.size ≤ 4096 ∧ chk ⟨k, a, b⟩ = 0) := by
  by_cases h1 : k < 1
  · exact .inl ⟨h1, chk_arg (.inl h1)⟩
  · by_cases h2 : 15 < k
    · exact .inr (.inl ⟨by omega, h2, chk_arg (.inr h2)⟩)
    · have k1 : 1 ≤ k := by omega
      have k2 : k ≤ 15 := by omega
      by_cases h3 : a < 0
      · exact .inr (.inr (.inl ⟨k1, k2, h3, chk_range k1 k2 (.inl h3)⟩))
      · by_cases h4 : 1099511627776 < a
        · exact .inr (.inr (.inr (.inl ⟨k1, k2, by omega, h4, chk_range k1 k2 (.inr h4)⟩)))
        · by_cases h5 : 4096 < b.size
          · exact .inr (.inr (.inr (.inr (.inl ⟨k1, k2, by omega, by omega, h5, chk_size k1 k2 (show (0 : Int) ≤ a by omega) (show a ≤ 1099511627776 by omega) h5⟩))))
          · exact .inr (.inr (.inr (.inr (.inr ⟨k1, k2, by omega, by omega, by omega, chk_ok.2 ⟨k1, k2, by show (0 : Int) ≤ a; omega, by show a ≤ 1099511627776; omega, by show b.size ≤ 4096; omega⟩⟩))))

set_option maxHeartbeats 400000 in
theorem check_calls (k a : Int) (b : ByteArray) (w : World) :
    Calls Tryz.prog 50 #[.agg #[.int .i64 k, .int .i64 a, .string b]] w fun e w' => e = .returned (.int .i64 (chk ⟨k, a, b⟩)) ∧ Below w.heap.size w w' := by
  rcases chk_ways k a b with ⟨h1, e⟩ | ⟨h1, h2, e⟩ | ⟨h1, h2, h3, e⟩ | ⟨h1, h2, h3, h4, e⟩ | ⟨h1, h2, h3, h4, h5, e⟩ | ⟨h1, h2, h3, h4, h5, e⟩
  all_goals
    have HE := Lib.hid e; clear e
  · go_enter Tryz.func50, Tryz.ntmps50
    go_wp2_with fail
    go_ret
    exact ⟨ret_i64 HE.out.symm, (Below.refl _ _).alloc (Nat.le_refl _) _⟩
  · go_enter Tryz.func50, Tryz.ntmps50
    go_wp2_with fail
    go_ret
    exact ⟨ret_i64 HE.out.symm, (Below.refl _ _).alloc (Nat.le_refl _) _⟩
  · have hT : isT a = false := isT_not.2 (by omega)
    go_enter Tryz.func50, Tryz.ntmps50
    go_wp2_with (go_at_call 74; refine (ist_calls _ _).mono ?_; rintro e w' ⟨rfl, rfl⟩)
    go_ret
    exact ⟨ret_i64 HE.out.symm, (Below.refl _ _).alloc (Nat.le_refl _) _⟩
  · have hT : isT a = false := isT_not.2 (by omega)
    go_enter Tryz.func50, Tryz.ntmps50
    go_wp2_with (go_at_call 74; refine (ist_calls _ _).mono ?_; rintro e w' ⟨rfl, rfl⟩)
    go_ret
    exact ⟨ret_i64 HE.out.symm, (Below.refl _ _).alloc (Nat.le_refl _) _⟩
  · have hT : isT a = true := isT_iff.2 (by omega)
    go_enter Tryz.func50, Tryz.ntmps50
    go_wp2_with (go_at_call 74; refine (ist_calls _ _).mono ?_; rintro e w' ⟨rfl, rfl⟩)
    go_ret
    exact ⟨ret_i64 HE.out.symm, (Below.refl _ _).alloc (Nat.le_refl _) _⟩
  · have hT : isT a = true := isT_iff.2 (by omega)
    go_enter Tryz.func50, Tryz.ntmps50
    go_wp2_with (go_at_call 74; refine (ist_calls _ _).mono ?_; rintro e w' ⟨rfl, rfl⟩)
    go_ret
    exact ⟨ret_i64 HE.out.symm, (Below.refl _ _).alloc (Nat.le_refl _) _⟩

theorem whole_calls (n : Int) (h0 : 0 ≤ n) (h1 : n ≤ 4611686018427387904) (w : World) :
    Calls Tryz.prog 109 #[.int .i64 n] w fun e w' => e = .returned (.int .i64 (14 + n)) ∧ w = w' := by
  go_enter Tryz.func109, Tryz.ntmps109
  go_wp2_with fail
  go_ret
  exact ⟨ret_i64 (by omega), rfl⟩

theorem len_calls (k a : Int) (b : ByteArray) (hb : b.size ≤ 4611686018427387904) (w : World) :
    Calls Tryz.prog 103 #[.agg #[.int .i64 k, .int .i64 a, .string b]] w fun e w' => e = .returned (.int .i64 (14 + (b.size : Int))) ∧ Below w.heap.size w w' := by
  have h0 : (0 : Int) ≤ (b.size : Int) := by omega
  have h1 : (b.size : Int) ≤ 4611686018427387904 := by omega
  go_enter Tryz.func103, Tryz.ntmps103
  go_wp2_with (go_at_call 109; refine (whole_calls _ (by omega) (by omega) _).mono ?_; rintro e w' ⟨rfl, rfl⟩)
  go_ret
  exact ⟨rfl, (Below.refl _ _).alloc (Nat.le_refl _) _⟩

theorem or_more {x c : Int} (h0 : 0 ≤ x) (h1 : x < 1099511627776) (c0 : 0 ≤ c) (c1 : c < 256) : bits .or .i64 (x * 256) c = x * 256 + c := by
  exact bits_join .i64 63 (by decide) (fun n a b => by rw [IntKind.wrap_i64]; omega) 8 _ _ (by omega) (by omega) (by omega) c0 (by omega) (by omega)
theorem be_less (s : ByteArray) (hs : s.size ≤ 6) (k : Nat) (h : k < s.size) : 0 ≤ be (s.data.toList.take k) ∧ be (s.data.toList.take k) < 1099511627776 := by
  have hb := be_range s k (by omega)
  refine ⟨hb.1, Int.lt_of_lt_of_le hb.2 ?_⟩
  have : k = 0 ∨ k = 1 ∨ k = 2 ∨ k = 3 ∨ k = 4 ∨ k = 5 := by omega
  rcases this with rfl | rfl | rfl | rfl | rfl | rfl <;> decide

set_option maxHeartbeats 400000 in
theorem number_calls (s : ByteArray) (hs : s.size ≤ 6) (w : World) :
    Calls Tryz.prog 127 #[.string s] w fun e w' => e = .returned (.int .i64 (be s.data.toList)) ∧ w = w' := by
  go_enter Tryz.func127, Tryz.ntmps127
  go_wp2_with fail
  go_loop [3, 7] (fun n i => ∃ k : Nat, k ≤ s.size ∧ i = .int .i64 k ∧ n = .int .i64 (be (s.data.toList.take k))) (fun _ i => s.size - (intOf i).toNat)
  case atStart => exact ⟨0, Nat.zero_le _, rfl, rfl⟩
  case round =>
    obtain ⟨k, hk, rfl, rfl⟩ := hrel
    by_cases hlt : k < s.size
    · have HS := Lib.hid (be_snoc s k hlt)
      have hc : (s[k].toNat : Int) < 256 := by have := s[k].toNat_lt; omega
      obtain ⟨hb0, hb2⟩ := be_less s hs k hlt
      generalize be (s.data.toList.take k) = v at hb0 hb2 HS ⊢
      have ho := or_more hb0 hb2 (c := (s[k].toNat : Int)) (by omega) (by omega)
      go_wp2_with fail
      go_round
      case rel => exact ⟨k + 1, by omega, by go_num, by rw [HS.out]⟩
      case measure => simp [intOf]; omega
    · have he : s.data.toList.take k = s.data.toList := List.take_of_length_le (by rw [size_list]; omega)
      rw [he] at *
      clear he
      go_wp2_with fail
      go_ret
      exact ⟨rfl, rfl⟩

end Go.Proofs.YtngangdjbbbbdaaGreatDoor.Rec
end

section
namespace Go.Proofs.YtngangdjbbbbdaaGreatDoor.Rec
open Go.RowKit Go.Proofs.YtngangdjbbbbdaaGreatDoor.Sum

theorem cut_mid {P : Program} (t : TypeId) (ht : P.underlying t = some .string) (s : ByteArray) (i j : Int) (h0 : 0 ≤ i) (h1 : i ≤ j) (h : j ≤ s.size) (W : World) :
    (Instr.sliceAt t (.string s) (some (.int .i64 i)) (some (.int .i64 j)) none).run P W = .ok (.string (s.extract i.toNat j.toNat)) W := by
  rw [run_sliceAt_string W t _ _ _ _ ht, run_slice_string W t s .i64 .i64 i j ht h0 h1 h]
theorem first_of (s : ByteArray) (h : 0 < s.size) : s.data.toList.head? = some s[0] := by
  obtain ⟨⟨l⟩⟩ := s
  cases l with
  | nil => exact absurd h (Nat.lt_irrefl 0)
  | cons a l => rfl
theorem kd_of (s : ByteArray) (h : 1 < s.size) : kd s.data.toList = (s[1].toNat : Int) := by
  obtain ⟨⟨l⟩⟩ := s
  match l, h with
  | a :: b :: l, _ => rfl
theorem mid_list (s : ByteArray) (i j : Nat) : (s.extract i j).data.toList = (s.data.toList.drop i).take (j - i) := by
  rw [extract_list, List.drop_take]
theorem mid_size (s : ByteArray) (i j : Nat) : (s.extract i j).size ≤ j - i := by
  simp [ByteArray.size_extract]; omega

theorem row3 {w : World} {b : Nat} {x y z : Value} {t : TypeId} (h : w.heap[b]? = some (.cells #[x, y, z] t (0, 0))) :
    w.cell? ⟨b, 0, none⟩ = some x ∧ w.cell? ⟨b, 1, none⟩ = some y ∧ w.cell? ⟨b, 2, none⟩ = some z ∧ w.frozen? ⟨b, 0, none⟩ = false ∧ w.frozen? ⟨b, 1, none⟩ = false ∧ w.frozen? ⟨b, 2, none⟩ = false :=
  ⟨Own.at_cell h 0, Own.at_cell h 1, Own.at_cell h 2, Own.at_frozen h 0, Own.at_frozen h 1, Own.at_frozen h 2⟩

/-- what an item's head tells -/
structure Parts (s : ByteArray) (a n : Int) : Prop where
  at_ : ∃ p : ByteArray, p.size ≤ 6 ∧ be p.data.toList = a ∧ ∀ W, (Instr.sliceAt 9 (.string s) (some (.int .i64 2)) (some (.int .i64 8)) none).run Tryz.prog W = .ok (.string p) W
  ln : ∃ p : ByteArray, p.size ≤ 6 ∧ be p.data.toList = n ∧ ∀ W, (Instr.sliceAt 9 (.string s) (some (.int .i64 8)) (some (.int .i64 10)) none).run Tryz.prog W = .ok (.string p) W
theorem parts_of (s : ByteArray) (h : 10 ≤ s.size) : Parts s (Rec.at_ s.data.toList) (Rec.ln s.data.toList) :=
  ⟨⟨s.extract 2 8, mid_size s 2 8, by rw [mid_list]; rfl, fun W => cut_mid 9 Tryz.underlying9 s 2 8 (by omega) (by omega) (by omega) W⟩,
   ⟨s.extract 8 10, Nat.le_trans (mid_size s 8 10) (by omega), by rw [mid_list]; rfl, fun W => cut_mid 9 Tryz.underlying9 s 8 10 (by omega) (by omega) (by omega) W⟩⟩

/-- the ways through an item's head -/
theorem head_ways (s : ByteArray) : s = ByteArray.empty ∨ ((s.toList == []) = false ∧ ∃ h : 0 < s.size,
    ((((s[0].toNat : Int) == 87) = false ∧ hdC s.data.toList = 3) ∨
     (((s[0].toNat : Int) == 87) = true ∧ s.size < 10 ∧ hdC s.data.toList = 13) ∨
     (((s[0].toNat : Int) == 87) = true ∧ ∃ h10 : 10 ≤ s.size, kd s.data.toList = (s[1].toNat : Int) ∧
       ((chk (hdI s.data.toList) ≠ 0 ∧ hdC s.data.toList = chk (hdI s.data.toList)) ∨
        (chk (hdI s.data.toList) = 0 ∧ 4096 < ln s.data.toList ∧ hdC s.data.toList = 5) ∨
        (chk (hdI s.data.toList) = 0 ∧ ln s.data.toList ≤ 4096 ∧ hdC s.data.toList = 0))))) := by
  by_cases h0 : s.size = 0
  · exact .inl (ByteArray.ext (Array.eq_empty_of_size_eq_zero h0))
  · right
    have hp : 0 < s.size := by omega
    have hne : s.data.toList ≠ [] := by
      intro e; apply h0; rw [← size_list, e]; rfl
    refine ⟨by rw [beq_eq_false_iff_ne, ByteArray.toList_eq]; exact hne, hp, ?_⟩
    have hf := first_of s hp
    by_cases h1 : s[0] = 87
    · have hb : ((s[0].toNat : Int) == 87) = true := by rw [h1]; rfl
      rw [h1] at hf
      right
      by_cases h2 : s.size < 10
      · exact .inl ⟨hb, h2, hd_short hne hf h2⟩
      · right
        have h10 : 10 ≤ s.size := by omega
        refine ⟨hb, h10, kd_of s (by omega), ?_⟩
        by_cases h3 : chk (hdI s.data.toList) = 0
        · right
          by_cases h4 : 4096 < ln s.data.toList
          · exact .inl ⟨h3, h4, hd_size hf h10 h3 h4⟩
          · exact .inr ⟨h3, by omega, hd_ok hf h10 h3 (by omega)⟩
        · exact .inl ⟨h3, hd_chk hf h10 h3⟩
    · left
      refine ⟨?_, hd_form hne (by rw [hf]; simpa using h1)⟩
      rw [beq_eq_false_iff_ne]
      intro e
      apply h1
      apply UInt8.toNat_inj.1
      show s[0].toNat = 87
      omega

def HeadPost (s : ByteArray) (w : World) (e : Ending) (w' : World) : Prop :=
  e = .returned (.tuple #[.agg #[.int .i64 (hdX s.data.toList).k, .int .i64 (hdX s.data.toList).a, .string (hdX s.data.toList).b], .int .i64 (hdN s.data.toList), .int .i64 (hdC s.data.toList)]) ∧ Below w.heap.size w w'
theorem head_none {s : ByteArray} {w w' : World} {c : Int} (h : hdC s.data.toList = c) (hc : c ≠ 0) (hb : Below w.heap.size w w') : HeadPost s w (.returned (.tuple #[.agg #[.int .i64 0, .int .i64 0, .string ByteArray.empty], .int .i64 0, .int .i64 c])) w' := by
  obtain ⟨e1, e2⟩ := hd_none (l := s.data.toList) (by rw [h]; exact hc)
  exact ⟨by rw [e1, e2, h]; rfl, hb⟩
theorem head_some {s : ByteArray} {w w' : World} (h : hdC s.data.toList = 0) (hb : Below w.heap.size w w') : HeadPost s w (.returned (.tuple #[.agg #[.int .i64 (kd s.data.toList), .int .i64 (Rec.at_ s.data.toList), .string ByteArray.empty], .int .i64 (ln s.data.toList), .int .i64 0])) w' := by
  obtain ⟨e1, e2⟩ := hd_some h
  exact ⟨by rw [e1, e2, h]; rfl, hb⟩

set_option maxRecDepth 100000 in
set_option maxHeartbeats 1000000 in
theorem head_calls (s : ByteArray) (hs : s.size ≤ 4611686018427387904) (w : World) :
    Calls Tryz.prog 108 #[.string s] w (HeadPost s w) := by
  rcases head_ways s with rfl | ⟨hz, hp, ⟨h1, e⟩ | ⟨h1, h2, e⟩ | ⟨h1, h10, hk, hx⟩⟩
  · go_enter Tryz.func108, Tryz.ntmps108
    go_wp2_with fail
    refine bodyPost_ret (v := .tuple #[.agg #[.int .i64 0, .int .i64 0, .string ByteArray.empty], .int .i64 0, .int .i64 13]) ?_ rfl (head_none rfl (by decide) ((Below.refl _ _).alloc (Nat.le_refl _) _))
    simp [results, Tryz.results108, go_sem, *]
    rfl
  · have HE := Lib.hid e; clear e
    go_enter Tryz.func108, Tryz.ntmps108
    go_wp2_with fail
    refine bodyPost_ret (v := .tuple #[.agg #[.int .i64 0, .int .i64 0, .string ByteArray.empty], .int .i64 0, .int .i64 3]) ?_ rfl (head_none HE.out (by decide) ((Below.refl _ _).alloc (Nat.le_refl _) _))
    simp [results, Tryz.results108, go_sem, *]
    rfl
  · have HE := Lib.hid e; clear e
    go_enter Tryz.func108, Tryz.ntmps108
    go_wp2_with fail
    refine bodyPost_ret (v := .tuple #[.agg #[.int .i64 0, .int .i64 0, .string ByteArray.empty], .int .i64 0, .int .i64 13]) ?_ rfl (head_none HE.out (by decide) ((Below.refl _ _).alloc (Nat.le_refl _) _))
    simp [results, Tryz.results108, go_sem, *]
    rfl
  · obtain ⟨⟨p, hp6, hpa, hpw⟩, q, hq6, hqn, hqw⟩ := parts_of s h10
    obtain ⟨c, hc⟩ : ∃ c, chk (hdI s.data.toList) = c := ⟨_, rfl⟩
    rw [hc] at hx
    unfold hdI at hc
    rw [hk, ← hpa] at hc
    have HC : Hid (chk ⟨(s[1].toNat : Int), be p.data.toList, ⟨#[]⟩⟩ = c) := Lib.hid hc
    have HN := Lib.hid hqn
    have HP := Lib.hid hpa
    have HK := Lib.hid hk
    have k1 : (1 : Int) < (s.size : Int) := by omega
    have k2 : (s[1].toNat : Int) < 256 := by have := s[1].toNat_lt; omega
    have b1 : ((s[0].toNat : Int) != 87) = false := by simpa using h1
    have b2 : decide ((s.size : Int) < 10) = false := decide_eq_false (by omega)
    have kw : IntKind.i64.wrap (s[1].toNat : Int) = (s[1].toNat : Int) := IntWalk.i64_in _ (by omega)
    clear hc hqn hpa hk
    go_enter Tryz.func108, Tryz.ntmps108
    go_upto_region 7 with (fail)
    go_cut [5] (fun s5 wx => s5 = .pointer (some ⟨w.heap.size + 1, 0, none⟩) ∧ wx = ((w.alloc (.cells #[.int .i64 0, .int .i64 0, .string ⟨#[]⟩] 43)).alloc (.cells #[.int .i64 (s[1].toNat : Int), .int .i64 (be p.data.toList), .string ⟨#[]⟩] 43)).drew)
    case first =>
      go_region_held3 (fun w' => True)
        (first | trivial)
        (first
          | (go_at_call 127; refine (number_calls _ hp6 _).mono ?_; rintro e w5 ⟨rfl, rfl⟩))
      all_goals (go_wp2_with fail; go_meet; exact ⟨rfl, rfl⟩)
    case rest =>
      obtain ⟨rfl, rfl⟩ := hcut
      go_wp2_with fail
      refine (check_calls _ _ _ _).mono ?_
      rintro e w5 ⟨rfl, hb5⟩
      rw [HC.out]
      have hr : w5.heap[w.heap.size]? = some (.cells #[.int .i64 0, .int .i64 0, .string ⟨#[]⟩] 43 (0, 0)) := by
        rw [hb5.block w.heap.size (by simp; omega)]; show ((w.alloc _).alloc _).heap[_]? = _; exact Own.at_old _ _ (Own.at_new _ _)
      have hq : w5.heap[w.heap.size + 1]? = some (.cells #[.int .i64 (s[1].toNat : Int), .int .i64 (be p.data.toList), .string ⟨#[]⟩] 43 (0, 0)) := by
        rw [hb5.block (w.heap.size + 1) (by simp)]; show ((w.alloc _).alloc _).heap[_]? = _; exact Own.at_newk _ _ (by simp)
      have hB : Below w.heap.size w w5 := ((((Below.refl _ _).alloc (Nat.le_refl _) _).alloc (by simp) _).drew).trans (hb5.mono (by simp; omega))
      clear hb5
      obtain ⟨c0, c1, c2, f0, f1, f2⟩ := row3 hr
      obtain ⟨d0, d1, d2, g0, g1, g2⟩ := row3 hq
      clear hr hq
      rcases hx with ⟨hc0, e⟩ | ⟨hc0, hn, e⟩ | ⟨hc0, hn, e⟩
      · have HE := Lib.hid e; clear e
        have b3 : (c != 0) = true := by simpa using hc0
        have b4 : (c == 0) = false := by simpa using hc0
        go_wp2_with fail
        refine bodyPost_ret (v := .tuple #[.agg #[.int .i64 0, .int .i64 0, .string ByteArray.empty], .int .i64 0, .int .i64 c]) ?_ rfl (head_none HE.out hc0 (((hB.setCell (p := ⟨_, _, _⟩) (Nat.le_refl _) _).setCell (p := ⟨_, _, _⟩) (Nat.le_refl _) _).setCell (p := ⟨_, _, _⟩) (Nat.le_refl _) _))
        simp [results, Tryz.results108, go_sem, *]
        rfl
      · have HE := Lib.hid e; clear e
        subst hc0
        rw [← HN.out] at hn
        go_wp2_with (go_at_call 127; refine (number_calls _ hq6 _).mono ?_; rintro e w' ⟨rfl, rfl⟩)
        refine bodyPost_ret (v := .tuple #[.agg #[.int .i64 0, .int .i64 0, .string ByteArray.empty], .int .i64 0, .int .i64 5]) ?_ rfl (head_none HE.out (by decide) (((hB.setCell (p := ⟨_, _, _⟩) (Nat.le_refl _) _).setCell (p := ⟨_, _, _⟩) (Nat.le_refl _) _).setCell (p := ⟨_, _, _⟩) (Nat.le_refl _) _))
        simp [results, Tryz.results108, go_sem, *]
        rfl
      · have HE := Lib.hid e; clear e
        subst hc0
        rw [← HN.out] at hn
        go_wp2_with (go_at_call 127; refine (number_calls _ hq6 _).mono ?_; rintro e w' ⟨rfl, rfl⟩)
        refine bodyPost_ret (v := .tuple #[.agg #[.int .i64 (kd s.data.toList), .int .i64 (Rec.at_ s.data.toList), .string ByteArray.empty], .int .i64 (ln s.data.toList), .int .i64 0]) ?_ rfl (head_some HE.out (((hB.setCell (p := ⟨_, _, _⟩) (Nat.le_refl _) _).setCell (p := ⟨_, _, _⟩) (Nat.le_refl _) _).setCell (p := ⟨_, _, _⟩) (Nat.le_refl _) _))
        rw [HK.out, ← HP.out, ← HN.out]
        simp [results, Tryz.results108, go_sem, *]
        rfl

end Go.Proofs.YtngangdjbbbbdaaGreatDoor.Rec
end

section
namespace Go.Proofs.YtngangdjbbbbdaaGreatDoor.Rec
open Go.RowKit Go.Proofs.YtngangdjbbbbdaaGreatDoor.Sum

theorem head_no (s : ByteArray) (hs : s.size ≤ 4611686018427387904) (h : hdC s.data.toList ≠ 0) (w : World) :
    Calls Tryz.prog 108 #[.string s] w fun e w' => e = .returned (.tuple #[.agg #[.int .i64 0, .int .i64 0, .string ⟨#[]⟩], .int .i64 0, .int .i64 (hdC s.data.toList)]) ∧ Below w.heap.size w w' :=
  (head_calls s hs w).mono fun e w' hp => by
    obtain ⟨rfl, hb⟩ := hp
    obtain ⟨e1, e2⟩ := hd_none h
    rw [e1, e2]; exact ⟨rfl, hb⟩
theorem head_yes (s : ByteArray) (hs : s.size ≤ 4611686018427387904) (h : hdC s.data.toList = 0) (w : World) :
    Calls Tryz.prog 108 #[.string s] w fun e w' => e = .returned (.tuple #[.agg #[.int .i64 (kd s.data.toList), .int .i64 (Rec.at_ s.data.toList), .string ⟨#[]⟩], .int .i64 (ln s.data.toList), .int .i64 0]) ∧ Below w.heap.size w w' :=
  (head_calls s hs w).mono fun e w' hp => by
    obtain ⟨rfl, hb⟩ := hp
    obtain ⟨e1, e2⟩ := hd_some h
    rw [e1, e2, h]; exact ⟨rfl, hb⟩

def ReadPost (s : ByteArray) (w : World) (e : Ending) (w' : World) : Prop :=
  e = .returned (.tuple #[.agg #[.int .i64 (rdX s.data.toList).k, .int .i64 (rdX s.data.toList).a, .string (rdX s.data.toList).b], .int .i64 (rdN s.data.toList), .int .i64 (rdC s.data.toList)]) ∧ Below w.heap.size w w'
theorem read_none {s : ByteArray} {w w' : World} {c : Int} (h : rdC s.data.toList = c) (hc : c ≠ 0) (hb : Below w.heap.size w w') : ReadPost s w (.returned (.tuple #[.agg #[.int .i64 0, .int .i64 0, .string ⟨#[]⟩], .int .i64 0, .int .i64 c])) w' := by
  obtain ⟨e1, e2⟩ := rd_none (l := s.data.toList) (by rw [h]; exact hc)
  exact ⟨by rw [e1, e2, h]; rfl, hb⟩
theorem read_some {s b : ByteArray} {w w' : World} (h : rdC s.data.toList = 0) (hbd : b = ⟨(bodyL s.data.toList).toArray⟩) (hb : Below w.heap.size w w') : ReadPost s w (.returned (.tuple #[.agg #[.int .i64 (kd s.data.toList), .int .i64 (Rec.at_ s.data.toList), .string b], .int .i64 (14 + ln s.data.toList), .int .i64 0])) w' := by
  obtain ⟨e1, e2⟩ := rd_some h
  exact ⟨by rw [e1, e2, h, hbd]; rfl, hb⟩

/-- what follows an item's head -/
structure Rest (s : ByteArray) (n : Int) : Prop where
  all : ∃ p : ByteArray, p.size ≤ s.size ∧ p.data.toList = s.data.toList.take (14 + n.toNat) ∧ ∀ W, (Instr.sliceAt 9 (.string s) none (some (.int .i64 (14 + n))) none).run Tryz.prog W = .ok (.string p) W
  body : ∃ b : ByteArray, b.data.toList = (s.data.toList.drop 10).take n.toNat ∧ ∀ W, (Instr.sliceAt 9 (.string s) (some (.int .i64 10)) (some (.int .i64 (10 + n))) none).run Tryz.prog W = .ok (.string b) W
theorem rest_of (s : ByteArray) (n : Int) (h0 : 0 ≤ n) (h : 14 + n ≤ s.size) : Rest s n :=
  ⟨⟨s.extract 0 (14 + n).toNat, by simp [ByteArray.size_extract]; omega, by rw [extract_list, List.drop_zero, show (14 + n).toNat = 14 + n.toNat by omega], fun W => cut_to 9 Tryz.underlying9 s _ (by omega) h W⟩,
   ⟨s.extract 10 (10 + n).toNat, by rw [mid_list, show (10 + n).toNat - 10 = n.toNat by omega], fun W => cut_mid 9 Tryz.underlying9 s 10 _ (by omega) (by omega) (by omega) W⟩⟩
theorem ba_of_list {b : ByteArray} {l : List UInt8} (h : b.data.toList = l) : b = ⟨l.toArray⟩ := by
  subst h; rw [Array.toArray_toList]

set_option maxRecDepth 100000 in
set_option maxHeartbeats 1000000 in
theorem read_calls (s : ByteArray) (hs : s.size ≤ 4611686018427387904) (w : World) :
    Calls Tryz.prog 96 #[.string s] w (ReadPost s w) := by
  by_cases h0 : hdC s.data.toList = 0
  · have hn0 := (ln_range s.data.toList).1
    have hn1 := (ln_range s.data.toList).2
    have HY := Lib.hid (head_yes s hs h0)
    by_cases h1 : 14 + ln s.data.toList ≤ (s.size : Int)
    · obtain ⟨⟨p, hps, hpl, hpw⟩, b, hbl, hbw⟩ := rest_of s _ hn0 h1
      cases hf : fits p.data.toList
      · have HE := Lib.hid (rd_sum h0 h1 (by rw [← hpl]; exact hf))
        clear h0 hbl hpl
        generalize ln s.data.toList = n at *
        go_enter Tryz.func96, Tryz.ntmps96
        go_wp2_with fail
        refine (HY.out _).mono ?_
        rintro e w5 ⟨rfl, hb5⟩
        have hr : w5.heap[w.heap.size]? = some (.cells #[.int .i64 0, .int .i64 0, .string ⟨#[]⟩] 43 (0, 0)) := by
          rw [hb5.block w.heap.size (by simp)]; exact Own.at_new _ _
        have hB : Below w.heap.size w w5 := ((Below.refl _ _).alloc (Nat.le_refl _) _).trans (hb5.mono (by simp))
        have n1 : w.heap.size < w5.heap.size := Own.at_lt hr
        clear hb5
        go_wp2_with (go_at_call 109; refine (whole_calls _ (by omega) (by omega) _).mono ?_; rintro e w' ⟨rfl, rfl⟩)
        refine (fits_calls p (by omega) _).mono ?_
        rintro e w6 ⟨rfl, hb6⟩
        rw [hf]
        have hr6 : w6.heap[w.heap.size]? = some (.cells #[.int .i64 0, .int .i64 0, .string ⟨#[]⟩] 43 (0, 0)) := by
          rw [hb6.block w.heap.size (by simp; omega)]; exact Own.at_old _ _ hr
        have hq6 : w6.heap[w5.heap.size]? = some (.cells #[.int .i64 (kd s.data.toList), .int .i64 (Rec.at_ s.data.toList), .string ⟨#[]⟩] 43 (0, 0)) := by
          rw [hb6.block w5.heap.size (by simp)]; exact Own.at_new _ _
        replace hB : Below w.heap.size w w6 := (hB.alloc (by omega) _).trans (hb6.mono (by simp; omega))
        clear hb6 hr
        obtain ⟨c0, c1, c2, f0, f1, f2⟩ := row3 hr6
        obtain ⟨d0, d1, d2, g0, g1, g2⟩ := row3 hq6
        have hlt6 : w5.heap.size < w6.heap.size := Own.at_lt hq6
        clear hr6 hq6
        generalize w5.heap.size = g at *
        have n2 : g ≠ w.heap.size := by omega
        have n3 : w.heap.size ≠ g := by omega
        go_wp2_with fail
        refine bodyPost_ret (v := .tuple #[.agg #[.int .i64 0, .int .i64 0, .string ⟨#[]⟩], .int .i64 0, .int .i64 4]) ?_ rfl (read_none HE.out (by decide) (((hB.setCell (p := ⟨_, _, _⟩) (Nat.le_refl _) _).setCell (p := ⟨_, _, _⟩) (Nat.le_refl _) _).setCell (p := ⟨_, _, _⟩) (Nat.le_refl _) _))
        simp [results, Tryz.results96, go_sem, *]
      · have HE := Lib.hid (rd_ok h0 h1 (by rw [← hpl]; exact hf))
        have HL : Hid (b = ⟨(bodyL s.data.toList).toArray⟩) := Lib.hid (ba_of_list hbl)
        obtain ⟨n, hn⟩ : ∃ n, ln s.data.toList = n := ⟨_, rfl⟩
        rw [hn] at hn0 hn1 HY h1 hpw hbw
        have HN := Lib.hid hn
        clear h0 hbl hpl hn
        go_enter Tryz.func96, Tryz.ntmps96
        go_wp2_with fail
        refine (HY.out _).mono ?_
        rintro e w5 ⟨rfl, hb5⟩
        have hr : w5.heap[w.heap.size]? = some (.cells #[.int .i64 0, .int .i64 0, .string ⟨#[]⟩] 43 (0, 0)) := by
          rw [hb5.block w.heap.size (by simp)]; exact Own.at_new _ _
        have hB : Below w.heap.size w w5 := ((Below.refl _ _).alloc (Nat.le_refl _) _).trans (hb5.mono (by simp))
        have n1 : w.heap.size < w5.heap.size := Own.at_lt hr
        clear hb5
        go_wp2_with (go_at_call 109; refine (whole_calls _ (by omega) (by omega) _).mono ?_; rintro e w' ⟨rfl, rfl⟩)
        refine (fits_calls p (by omega) _).mono ?_
        rintro e w6 ⟨rfl, hb6⟩
        rw [hf]
        have hr6 : w6.heap[w.heap.size]? = some (.cells #[.int .i64 0, .int .i64 0, .string ⟨#[]⟩] 43 (0, 0)) := by
          rw [hb6.block w.heap.size (by simp; omega)]; exact Own.at_old _ _ hr
        have hq6 : w6.heap[w5.heap.size]? = some (.cells #[.int .i64 (kd s.data.toList), .int .i64 (Rec.at_ s.data.toList), .string ⟨#[]⟩] 43 (0, 0)) := by
          rw [hb6.block w5.heap.size (by simp)]; exact Own.at_new _ _
        replace hB : Below w.heap.size w w6 := (hB.alloc (by omega) _).trans (hb6.mono (by simp; omega))
        clear hb6 hr
        obtain ⟨c0, c1, c2, f0, f1, f2⟩ := row3 hr6
        obtain ⟨d0, d1, d2, g0, g1, g2⟩ := row3 hq6
        have hlt6 : w5.heap.size < w6.heap.size := Own.at_lt hq6
        clear hr6 hq6
        generalize w5.heap.size = g at *
        have n2 : g ≠ w.heap.size := by omega
        have n3 : w.heap.size ≠ g := by omega
        go_wp2_with fail
        refine bodyPost_ret (v := .tuple #[.agg #[.int .i64 (kd s.data.toList), .int .i64 (Rec.at_ s.data.toList), .string b], .int .i64 (14 + ln s.data.toList), .int .i64 0]) ?_ rfl (read_some HE.out HL.out (by first | exact hB | exact ((((hB.setCell (p := ⟨_, _, _⟩) (by simp; omega) _).setCell (p := ⟨_, _, _⟩) (Nat.le_refl _) _).setCell (p := ⟨_, _, _⟩) (Nat.le_refl _) _).setCell (p := ⟨_, _, _⟩) (Nat.le_refl _) _)))
        rw [HN.out]
        simp [results, Tryz.results96, go_sem, *]
    · have HE := Lib.hid (rd_cut h0 (show (s.data.toList.length : Int) < _ by rw [size_list]; omega))
      have h2 : (s.size : Int) < 14 + ln s.data.toList := by omega
      clear h0 h1
      generalize ln s.data.toList = n at *
      go_enter Tryz.func96, Tryz.ntmps96
      go_wp2_with fail
      refine (HY.out _).mono ?_
      rintro e w5 ⟨rfl, hb5⟩
      have hr : w5.heap[w.heap.size]? = some (.cells #[.int .i64 0, .int .i64 0, .string ⟨#[]⟩] 43 (0, 0)) := by
        rw [hb5.block w.heap.size (by simp)]; exact Own.at_new _ _
      have hB : Below w.heap.size w w5 := ((Below.refl _ _).alloc (Nat.le_refl _) _).trans (hb5.mono (by simp))
      have n1 : w.heap.size < w5.heap.size := Own.at_lt hr
      clear hb5
      obtain ⟨c0, c1, c2, f0, f1, f2⟩ := row3 hr
      clear hr
      go_wp2_with (go_at_call 109; refine (whole_calls _ (by omega) (by omega) _).mono ?_; rintro e w' ⟨rfl, rfl⟩)
      refine bodyPost_ret (v := .tuple #[.agg #[.int .i64 0, .int .i64 0, .string ⟨#[]⟩], .int .i64 0, .int .i64 13]) ?_ rfl (read_none HE.out (by decide) ((((hB.setCell (p := ⟨_, _, _⟩) (Nat.le_refl _) _).setCell (p := ⟨_, _, _⟩) (Nat.le_refl _) _).setCell (p := ⟨_, _, _⟩) (Nat.le_refl _) _).alloc (by simp; omega) _))
      simp [results, Tryz.results96, go_sem, *]
  · have HE := Lib.hid (rd_hd h0)
    have HY := Lib.hid (head_no s hs h0)
    generalize hdC s.data.toList = c at h0 HE HY
    have b3 : (c != 0) = true := by simpa using h0
    go_enter Tryz.func96, Tryz.ntmps96
    go_wp2_with fail
    refine (HY.out _).mono ?_
    rintro e w5 ⟨rfl, hb5⟩
    have hr : w5.heap[w.heap.size]? = some (.cells #[.int .i64 0, .int .i64 0, .string ⟨#[]⟩] 43 (0, 0)) := by
      rw [hb5.block w.heap.size (by simp)]; exact Own.at_new _ _
    have hB : Below w.heap.size w w5 := ((Below.refl _ _).alloc (Nat.le_refl _) _).trans (hb5.mono (by simp))
    have n1 : w.heap.size < w5.heap.size := Own.at_lt hr
    clear hb5
    obtain ⟨c0, c1, c2, f0, f1, f2⟩ := row3 hr
    clear hr
    go_wp2_with fail
    refine bodyPost_ret (v := .tuple #[.agg #[.int .i64 0, .int .i64 0, .string ⟨#[]⟩], .int .i64 0, .int .i64 c]) ?_ rfl (read_none HE.out h0 ((((hB.setCell (p := ⟨_, _, _⟩) (Nat.le_refl _) _).setCell (p := ⟨_, _, _⟩) (Nat.le_refl _) _).setCell (p := ⟨_, _, _⟩) (Nat.le_refl _) _).alloc (by simp; omega) _))
    simp [results, Tryz.results96, go_sem, *]

end Go.Proofs.YtngangdjbbbbdaaGreatDoor.Rec
end

section
namespace Go.Proofs.YtngangdjbbbbdaaGreatDoor.Rec
open Go.RowKit Go.Proofs.YtngangdjbbbbdaaGreatDoor.Own

/-- items as cells -/
def cv (l : List Itm) : List Value := l.flatMap fun x => [.int .i64 x.k, .int .i64 x.a, .string x.b]
theorem cv_len (l : List Itm) : (cv l).length = l.length * 3 := by
  induction l with
  | nil => rfl
  | cons e r ih => simp [cv] at ih ⊢; omega
theorem cv_app (l m : List Itm) : cv (l ++ m) = cv l ++ cv m := by simp [cv]
theorem cv_one (l : List Itm) : ∀ u ∈ cv l, u.oneCell' = true := by
  intro u hu
  simp only [cv, List.mem_flatMap] at hu
  obtain ⟨e, _, h⟩ := hu
  simp at h
  rcases h with rfl | rfl | rfl <;> rfl
theorem cv_get {l : List Itm} {i : Nat} (h : i < l.length) : (cv l)[i * 3]? = some (.int .i64 l[i].k) ∧ (cv l)[i * 3 + 1]? = some (.int .i64 l[i].a) ∧ (cv l)[i * 3 + 2]? = some (.string l[i].b) := by
  induction l generalizing i with
  | nil => simp at h
  | cons e r ih =>
    cases i with
    | zero => simp [cv]
    | succ i =>
      have := ih (i := i) (by simpa using h)
      simpa [cv, Nat.add_mul] using this
theorem info_item : (Tryz.prog.info? 43).map (fun i => (i.zero, i.size, i.bytes)) = some (some (.agg #[.int .i64 0, .int .i64 0, .string ⟨#[]⟩]), 3, 32) := by kernel_rfl

/-- a slice that holds items -/
structure Its (w : World) (xs : List Itm) (p : Option Addr) (c : Nat) : Prop where
  cap : xs.length ≤ c
  max : c ≤ maxLen
  cells : xs = [] ∨ ∃ b o, p = some ⟨b, o, none⟩ ∧ b < w.heap.size ∧ ∀ i (hi : i < xs.length), w.cell? ⟨b, o + i * 3, none⟩ = some (.int .i64 xs[i].k) ∧ w.cell? ⟨b, o + i * 3 + 1, none⟩ = some (.int .i64 xs[i].a) ∧ w.cell? ⟨b, o + i * 3 + 2, none⟩ = some (.string xs[i].b)
theorem Its.kept {w w' : World} {xs : List Itm} {p : Option Addr} {c : Nat} (h : Its w xs p c) (hb : Below w.heap.size w w') : Its w' xs p c :=
  ⟨h.cap, h.max, h.cells.imp id fun ⟨b, o, e, hl, k⟩ => ⟨b, o, e, Nat.lt_of_lt_of_le hl hb.size, fun i hi => ⟨(hb.cell (p := ⟨b, _, none⟩) hl).trans (k i hi).1, (hb.cell (p := ⟨b, _, none⟩) hl).trans (k i hi).2.1, (hb.cell (p := ⟨b, _, none⟩) hl).trans (k i hi).2.2⟩⟩⟩
theorem owns_its {w : World} {B : Nat} {p : Option Addr} {n c : Nat} {xs : List Itm} (h : w.ownsRow B 43 3 (.slice p n c) n (cv xs)) (hn : n = xs.length) : Its w xs p c := by
  subst hn
  have hc := @World.ownsRow.cells _ _ _ _ _ _ _ h
  rcases h.2 with ⟨e, h0⟩ | ⟨g, cap, cur, e, _, hh, h3, h4, _⟩
  · simp only [Value.slice.injEq] at e
    obtain ⟨rfl, _, rfl⟩ := e
    exact ⟨by omega, by unfold maxLen; omega, .inl (List.eq_nil_of_length_eq_zero h0)⟩
  · simp only [Value.slice.injEq] at e
    obtain ⟨rfl, _, rfl⟩ := e
    refine ⟨h3, h4, .inr ⟨g, 0, rfl, at_lt hh, fun i hi => ?_⟩⟩
    obtain ⟨e1, e2, e3⟩ := cv_get hi
    have r1 := hc (g := g) rfl _ _ e1
    have r2 := hc (g := g) rfl _ _ e2
    have r3 := hc (g := g) rfl _ _ e3
    rw [add0] at r1 r2 r3
    rw [Nat.zero_add]
    exact ⟨r1, r2, r3⟩

section
open Go.Joins Go.ChangeShapes Go.WideShapes Go.Deep
variable {H : Type} {enc : TypeId × Value → H} {w : World} {spare : Nat → Bool} {held : Bool}
set_option maxRecDepth 100000 in
/-- an item that came in -/
theorem item_arg {v : Value} {d : DataW H} {p : List MemPlace} {base b0 : Nat} {r : Reach} (ho : Value.okWide Tryz.prog w r b0 43 v) (h : DataW.Trod enc Tryz.prog w base spare held 43 v d p) :
    ∃ (k a : Int) (b : ByteArray), v = .agg #[.int .i64 k, .int .i64 a, .string b] ∧ b.size ≤ maxLen := by
  obtain ⟨v0, v1, v2, y0, y1, y2, n, rfl, _, _, h0, h1, h2⟩ := open_agg3 Tryz.underlying43 (by kernel_rfl) (by kernel_rfl) ho h
  obtain ⟨k, hk, _, _⟩ := DataW.trod_int Tryz.underlying3 h0
  obtain ⟨a, ha, _, _⟩ := DataW.trod_int Tryz.underlying3 h1
  obtain ⟨b, hb, _, hw⟩ := DataW.trod_string Tryz.underlying9 h2
  simp at hk ha hb
  subst hk ha hb
  exact ⟨k, a, b, rfl, hw⟩
end

def toI : Value → Int
  | .int _ n => n
  | _ => 0
def toB : Value → ByteArray
  | .string b => b
  | _ => ByteArray.empty
/-- items that came in -/
theorem its_arg {w : World} {v : Value} {n : Nat} {E : Nat → Nat → Value} (h : Row w v n 3 E) (hE : ∀ i, i < n → ∃ (k a : Int) (b : ByteArray), E i 0 = .int .i64 k ∧ E i 1 = .int .i64 a ∧ E i 2 = .string b) :
    ∃ xs p c, v = .slice p xs.length c ∧ Its w xs p c := by
  obtain ⟨a, cap, rfl, h1, h2, h3⟩ := h
  refine ⟨(List.range n).map fun i => ⟨toI (E i 0), toI (E i 1), toB (E i 2)⟩, a, cap, by simp, by simpa using h1, h2, ?_⟩
  rcases h3 with rfl | ⟨b, off, rfl, hb, hc⟩
  · exact .inl rfl
  · refine .inr ⟨b, off, rfl, hb, fun i hi => ?_⟩
    have hi' : i < n := by simpa using hi
    obtain ⟨k, a, bb, e0, e1, e2⟩ := hE i hi'
    have c0 := hc i 0 hi' (by omega)
    have c1 := hc i 1 hi' (by omega)
    have c2 := hc i 2 hi' (by omega)
    simp only [List.getElem_map, List.getElem_range, e0, e1, e2] at c0 c1 c2 ⊢
    exact ⟨c0, c1, c2⟩

end Go.Proofs.YtngangdjbbbbdaaGreatDoor.Rec
end

section
namespace Go.Proofs.YtngangdjbbbbdaaGreatDoor.Rec
open Go.RowKit Go.Proofs.YtngangdjbbbbdaaGreatDoor.Sum


theorem read_no (s : ByteArray) (hs : s.size ≤ 4611686018427387904) (h : rdC s.data.toList ≠ 0) (w : World) :
    Calls Tryz.prog 96 #[.string s] w fun e w' => e = .returned (.tuple #[.agg #[.int .i64 0, .int .i64 0, .string ⟨#[]⟩], .int .i64 0, .int .i64 (rdC s.data.toList)]) ∧ Below w.heap.size w w' :=
  (read_calls s hs w).mono fun e w' hp => by
    obtain ⟨rfl, hb⟩ := hp
    obtain ⟨e1, e2⟩ := rd_none h
    rw [e1, e2]; exact ⟨rfl, hb⟩
theorem read_yes (s : ByteArray) (hs : s.size ≤ 4611686018427387904) (h : rdC s.data.toList = 0) (x : Itm) (n : Int) (hx : rdX s.data.toList = x) (hn : rdN s.data.toList = n) (w : World) :
    Calls Tryz.prog 96 #[.string s] w fun e w' => e = .returned (.tuple #[.agg #[.int .i64 x.k, .int .i64 x.a, .string x.b], .int .i64 n, .int .i64 0]) ∧ Below w.heap.size w w' :=
  (read_calls s hs w).mono fun e w' hp => by
    obtain ⟨rfl, hb⟩ := hp
    rw [hx, hn, h]; exact ⟨rfl, hb⟩

/-- what is left of a text -/
theorem from_of (s : ByteArray) (k : Nat) (hk : k ≤ s.size) : ∃ p : ByteArray, p.size ≤ s.size ∧ p.data.toList = s.data.toList.drop k ∧ ∀ W, (Instr.sliceAt 9 (.string s) (some (.int .i64 k)) none none).run Tryz.prog W = .ok (.string p) W :=
  ⟨s.extract (k : Int).toNat s.size, by simp [ByteArray.size_extract], by rw [extract_list, show (k : Int).toNat = k by omega, List.take_of_length_le (by rw [size_list]; omega)], fun W => cut_from 9 Tryz.underlying9 s k (by omega) (by omega) W⟩

/-- items found, so many bytes done -/
structure ScanAt (s : ByteArray) (w wr : World) (L : List Itm) (k : Nat) (v : Value) : Prop where
  own : wr.ownsRow w.heap.size 43 3 v L.length (cv L)
  below : Below w.heap.size w wr
  len : L.length ≤ k
  le : k ≤ s.size
  left : scan s.data.toList = (L ++ (scan (s.data.toList.drop k)).1, (k : Int) + (scan (s.data.toList.drop k)).2)
def ScanPost (s : ByteArray) (w : World) (e : Ending) (w' : World) : Prop :=
  ∃ v, e = .returned (.tuple #[v, .int .i64 (scan s.data.toList).2]) ∧ w'.ownsRow w.heap.size 43 3 v (scan s.data.toList).1.length (cv (scan s.data.toList).1) ∧ Below w.heap.size w w'
theorem ScanAt.end_ {s : ByteArray} {w wr w' : World} {L : List Itm} {k : Nat} {v : Value} (h : ScanAt s w wr L k v) (hr : rdC (s.data.toList.drop k) ≠ 0) (hb : Below wr.heap.size wr w') : ScanPost s w (.returned (.tuple #[v, .int .i64 k])) w' := by
  have e := h.left
  rw [scan_no hr] at e
  have hs := h.below.size
  refine ⟨v, ?_, ?_, h.below.trans (hb.mono hs)⟩
  · rw [e]; simp
  · rw [e]
    have := Own.own_below h.own hb
    simpa using this
theorem ScanAt.step {s : ByteArray} {w wr w5 w1 : World} {L : List Itm} {k : Nat} {v v' : Value} (h : ScanAt s w wr L k v) (hr : rdC (s.data.toList.drop k) = 0) (hb : Below wr.heap.size wr w5)
    (ho : w1.ownsRow w.heap.size 43 3 v' (L.length + 1) (cv L ++ [.int .i64 (rdX (s.data.toList.drop k)).k, .int .i64 (rdX (s.data.toList.drop k)).a, .string (rdX (s.data.toList.drop k)).b])) (hg : w5.grownBy w1 v.ownBlock) :
    ScanAt s w w1 (L ++ [rdX (s.data.toList.drop k)]) (k + (rdN (s.data.toList.drop k)).toNat) v' := by
  have hs := h.below.size
  have hs5 := hb.size
  have e := h.left
  obtain ⟨_, hn⟩ := rd_some hr
  have hn0 := ln_range (s.data.toList.drop k)
  have hl := (rd_inv hr).2.1
  have hle := h.le
  have hlen := h.len
  rw [List.length_drop, size_list] at hl
  refine ⟨?_, ?_, ?_, ?_, ?_⟩
  · rw [List.length_append, cv_app]; exact ho
  · exact (h.below.trans (hb.mono hs)).grown hg (by omega) (fun k hk => (World.ownsRow.lt h.own k hk).1)
  · rw [List.length_append, List.length_singleton, hn]; omega
  · rw [hn]; omega
  · have dd : s.data.toList.drop (k + (14 + (ln (s.data.toList.drop k)).toNat)) = (s.data.toList.drop k).drop (14 + (ln (s.data.toList.drop k)).toNat) := by rw [List.drop_drop]
    rw [e, scan_ok hr, show (rdN (s.data.toList.drop k)).toNat = 14 + (ln (s.data.toList.drop k)).toNat by rw [hn]; omega, dd, List.append_assoc]
    refine Prod.ext rfl ?_
    show (k : Int) + (rdN (s.data.toList.drop k) + _) = ((k + (14 + (ln (s.data.toList.drop k)).toNat) : Nat) : Int) + _
    rw [hn]; omega

set_option maxRecDepth 100000 in
set_option maxHeartbeats 1000000 in
theorem scan_calls (s : ByteArray) (hs : s.size ≤ 1099511627776) (w : World) :
    Calls Tryz.prog 82 #[.string s] w (ScanPost s w) := by
  obtain ⟨i0, hi, hz0, hz1, hz2⟩ := info_parts info_item
  go_enter Tryz.func82, Tryz.ntmps82
  go_wp2_with fail
  go_step3
  go_wp2_with fail
  go_step3
  go_wp2_with fail
  go_loopw [4, 5] (fun v a wr => ∃ (L : List Itm) (k : Nat), a = .int .i64 k ∧ ScanAt s w wr L k v) (fun _ a _ => s.size - (intOf a).toNat)
  case atStart => exact ⟨[], 0, rfl, World.ownsRow_nil _ _ _ _, Below.refl _ _, by simp, by omega, by simp⟩
  case round =>
    obtain ⟨L, k, rfl, C⟩ := hrel
    have hle := C.le
    have hlen := C.len
    have hown := C.own
    have hsz := C.below.size
    obtain ⟨p, hps, hpl, hpw⟩ := from_of s k hle
    have k0 : (k : Int) ≤ 1099511627776 := by omega
    by_cases hr : rdC (s.data.toList.drop k) = 0
    · obtain ⟨_, hn⟩ := rd_some hr
      have hn0 := ln_range (s.data.toList.drop k)
      obtain ⟨n, hnn⟩ : ∃ n, rdN (s.data.toList.drop k) = n := ⟨_, rfl⟩
      obtain ⟨x, hxx⟩ : ∃ x, rdX (s.data.toList.drop k) = x := ⟨_, rfl⟩
      have HY := Lib.hid (read_yes p (by omega) (by rw [hpl]; exact hr) x n (by rw [hpl]; exact hxx) (by rw [hpl]; exact hnn))
      have hl := (rd_inv hr).2.1
      rw [List.length_drop, size_list] at hl
      have n0 : 0 ≤ n := by omega
      have n3 : n + k ≤ (s.size : Int) := by omega
      have n1 : n + k ≤ 1099511627776 := by omega
      have n2 : 14 ≤ n := by omega
      have HC := Lib.hid C
      have HR := Lib.hid hr
      have HN := Lib.hid hnn
      have HX := Lib.hid hxx
      have HO := Lib.hid hown
      clear C hr hnn hxx hown hl hn hn0 hpl
      go_wp2_with fail
      refine (HY.out _).mono ?_
      rintro e w5 ⟨rfl, hb5⟩
      have HB5 := Lib.hid hb5
      have h5 := hb5.size
      have ho5 := Own.own_below HO.out hb5
      clear hb5
      go_wp2_with (at_builtin; (refine Own.append_any rfl (.tmp 20) (.tmp 22) 23 rfl w.heap.size 43 i0 _ 3 32 Tryz.underlying23 hi hz0 hz1 hz2 rfl (by decide) _ _ _ rfl (World.ownsRow.alloc (World.ownsRow.alloc ho5 _) _) _ 1 1 [.int .i64 x.k, .int .i64 x.a, .string x.b] rfl (fun h => nomatch h) rfl (Own.three_new _ _ _ _ _ _ (by simp)) (by simp [Value.oneCell']) (by unfold maxLen; omega) (by omega) (by simp; omega) ?_; intro v' w1 hown1 hgrow1))
      have C1 := HC.out.step HR.out ((HB5.out.alloc h5 _).alloc (by simp; omega) _) (by rw [HX.out]; exact hown1) hgrow1
      rw [HX.out, HN.out] at C1
      have HC1 := Lib.hid C1
      clear C1 hown1 hgrow1 ho5
      go_wp2_with fail
      go_roundw
      case rel => exact ⟨_, _, by rw [show (k : Int) + n = ((k + n.toNat : Nat) : Int) by omega], HC1.out⟩
      case measure => simp [intOf]; omega
    · have HY := Lib.hid (read_no p (by omega) (by rw [hpl]; exact hr))
      rw [hpl] at HY
      have HC := Lib.hid C
      have HR := Lib.hid hr
      obtain ⟨c, hc⟩ : ∃ c, rdC (s.data.toList.drop k) = c := ⟨_, rfl⟩
      rw [hc] at HY hr
      have b3 : (c == 0) = false := by simpa using hr
      have b4 : (c != 0) = true := by simpa using hr
      clear C hc hown hpl hr
      go_wp2_with fail
      refine (HY.out _).mono ?_
      rintro e w5 ⟨rfl, hb5⟩
      have HB5 := Lib.hid hb5
      clear hb5
      go_wp2_with fail
      rw [Exit.noGoto_ret]
      go_ret2
      exact HC.out.end_ HR.out (HB5.out.alloc HB5.out.size _)
end Go.Proofs.YtngangdjbbbbdaaGreatDoor.Rec
end

section
namespace Go.Proofs.YtngangdjbbbbdaaGreatDoor.Rst
open Go.Proofs.YtngangdjbbbbdaaGreatDoor.Rec (Itm chk scan rdC rdX rdN ln rd_inv rd_some ln_range scan_ok scan_no)
abbrev Bs := List UInt8

theorem scan_bd (n : Nat) : ∀ l : Bs, l.length ≤ n → 0 ≤ (scan l).2 ∧ (scan l).2 ≤ l.length ∧ (scan l).1.length ≤ l.length ∧ ∀ x ∈ (scan l).1, x.b.size ≤ 65535 := by
  induction n with
  | zero =>
    intro l hl
    have : l = [] := List.eq_nil_of_length_eq_zero (by omega)
    subst this
    by_cases h : rdC ([] : Bs) = 0
    · have := (rd_inv h).2.1
      have := ln_range ([] : Bs)
      simp at *; omega
    · rw [scan_no h]; simp
  | succ n ih =>
    intro l hl
    by_cases h : rdC l = 0
    · have h1 := (rd_inv h).2.1
      have h2 := ln_range l
      have h3 := rd_some h
      obtain ⟨i1, i2, i3, i4⟩ := ih (l.drop (14 + (ln l).toNat)) (by rw [List.length_drop]; omega)
      rw [List.length_drop] at i2 i3
      rw [scan_ok h]
      refine ⟨by rw [h3.2]; dsimp only; omega, by rw [h3.2]; dsimp only; omega, by rw [List.length_cons]; omega, fun x hx => ?_⟩
      rcases List.mem_cons.1 hx with rfl | hx
      · rw [h3.1]
        show (⟨(Rec.bodyL l).toArray⟩ : ByteArray).size ≤ 65535
        rw [show (⟨(Rec.bodyL l).toArray⟩ : ByteArray).size = (Rec.bodyL l).length from by simp [ByteArray.size]]
        unfold Rec.bodyL
        rw [List.length_take]; omega
      · exact i4 x hx
    · rw [scan_no h]; simp
/-- how many bytes of a text are no whole items -/
def torn1 (s : Bs) : Int := (s.length : Int) - (scan s).2
theorem torn1_bd (s : Bs) : 0 ≤ torn1 s ∧ torn1 s ≤ s.length := by
  obtain ⟨h1, h2, _⟩ := scan_bd _ s (Nat.le_refl _)
  unfold torn1; omega
def tornL : List Bs → Int
  | [] => 0
  | s :: L => torn1 s + tornL L
theorem tornL_app (L M : List Bs) : tornL (L ++ M) = tornL L + tornL M := by
  induction L with
  | nil => simp [tornL]
  | cons s L ih => simp only [List.cons_append, tornL, ih]; omega
theorem tornL_bd (L : List Bs) (h : ∀ s ∈ L, s.length ≤ 16777216) : 0 ≤ tornL L ∧ tornL L ≤ 16777216 * L.length := by
  induction L with
  | nil => simp [tornL]
  | cons s L ih =>
    have i := ih fun x hx => h x (List.mem_cons_of_mem _ hx)
    have b := torn1_bd s
    have := h s List.mem_cons_self
    rw [tornL, List.length_cons]; omega
/-- how many items were lost, as items tell -/
noncomputable def lst1 (n : Int) (x : Itm) : Int := if x.k = 3 then min (n + Digit.rdV x.b.data.toList) 1099511627776 else n
noncomputable def lstL (l : List Itm) : Int := l.foldl lst1 0
theorem lstL_snoc (l : List Itm) (x : Itm) : lstL (l ++ [x]) = lst1 (lstL l) x := by unfold lstL; rw [List.foldl_append]; rfl
theorem rdV_bd (s : Bs) : 0 ≤ Digit.rdV s ∧ Digit.rdV s ≤ 1099511627776 := by
  by_cases h : ∃ n, Digit.IsTick s n
  · obtain ⟨n, hn⟩ := h
    rw [(Digit.rd_some hn).1]
    exact ⟨hn.1, hn.2.1⟩
  · unfold Digit.rdV; rw [dif_neg h]; omega
theorem lst1_bd {n : Int} (h : 0 ≤ n ∧ n ≤ 1099511627776) (x : Itm) : 0 ≤ lst1 n x ∧ lst1 n x ≤ 1099511627776 := by
  have := rdV_bd x.b.data.toList
  unfold lst1
  split <;> omega
theorem lstL_bd (l : List Itm) : 0 ≤ lstL l ∧ lstL l ≤ 1099511627776 := by
  suffices h : ∀ l : List Itm, ∀ n : Int, 0 ≤ n ∧ n ≤ 1099511627776 → 0 ≤ l.foldl lst1 n ∧ l.foldl lst1 n ≤ 1099511627776 from h l 0 (by omega)
  intro l
  induction l with
  | nil => intro n h; exact h
  | cons x l ih => intro n h; exact ih _ (lst1_bd h x)
theorem lst1_gap {n : Int} {x : Itm} (h : x.k = 3) : lst1 n x = min (n + Digit.rdV x.b.data.toList) 1099511627776 := if_pos h
theorem lst1_no {n : Int} {x : Itm} (h : ¬ x.k = 3) : lst1 n x = n := if_neg h
/-- the end of items, told by places -/
theorem take_snoc {α : Type} {l : List α} {k : Nat} (h : k < l.length) : l.take (k + 1) = l.take k ++ [l[k]] := List.take_succ_eq_append_getElem h
theorem last_nil {α : Type} {l : List α} (h : l.length = 0) : l = [] := List.eq_nil_of_length_eq_zero h
/-- the time of the last item -/
def lastAt (l : List Itm) : Int := match l.getLast? with
  | none => 0
  | some x => x.a
theorem lastAt_nil : lastAt [] = 0 := rfl
theorem lastAt_some {l : List Itm} {n : Nat} (h : l.length = n + 1) : lastAt l = (l[n]'(by omega)).a := by
  have e : l.getLast? = some (l[n]'(by omega)) := by rw [List.getLast?_eq_getElem?, show l.length - 1 = n by omega, List.getElem?_eq_getElem (by omega)]
  unfold lastAt; rw [e]
end Go.Proofs.YtngangdjbbbbdaaGreatDoor.Rst
end


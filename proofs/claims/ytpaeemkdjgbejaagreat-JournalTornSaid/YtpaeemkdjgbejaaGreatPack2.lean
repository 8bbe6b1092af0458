/-
Layer 8 (record): items as bytes; plain Lean.
Layer 22 (journal), plain: what a journal's calls make of the store; what is held of the generations is a piece of what was taken.
Blocks that a call may write, and all others as they were: 'Out S w w''; a block known whole; copy into a block known whole.
Maps whose elements are whatever values: 'KMap P k kv w b f n': block b of w is a map of n entries; the entry at the key kv a holds the value v just where f a = some v.
Rows of the call's own: kept by Below, appended to from whatever source.
-/
import Derived.Test.YtpaeemkdjgbejaaGreatPack1
import Derived.Below
import Derived.Laws.CopyOwn
import Derived.Lib.Hide
import Derived.Deep.Draws
import Derived.Maps.OwnSet
import Derived.Maps.OwnOps
import Derived.IntWalk
import Derived.OwnWalk
import Derived.Laws.AppendOwnNone
import Derived.Laws.AppendOwn
section
namespace Go.Proofs.YtpaeemkdjgbejaaGreat.Rec
open Go.Proofs.YtpaeemkdjgbejaaGreat.Sum

/-! numbers as so many bytes, the highest first -/
def dig : Nat → Int → List UInt8
  | 0, _ => []
  | w + 1, n => dig w (n / 256) ++ [byteI (n % 256)]
theorem dig_len (w : Nat) : ∀ n, (dig w n).length = w := by
  induction w with
  | zero => intro n; rfl
  | succ w ih => intro n; simp [dig, ih]
theorem be_app1 (l : List UInt8) (c : UInt8) : be (l ++ [c]) = be l * 256 + (c.toNat : Int) := by unfold be; rw [List.foldl_append]; rfl
theorem be_dig (w : Nat) : ∀ n : Int, 0 ≤ n → n < 256 ^ w → be (dig w n) = n := by
  induction w with
  | zero => intro n h0 h1; rw [Int.pow_zero] at h1; show (0 : Int) = n; omega
  | succ w ih =>
    intro n h0 h1
    rw [Int.pow_succ] at h1
    rw [dig, be_app1, ih _ (by omega) (by omega), byteI_back (by omega) (by omega)]
    omega
theorem rev_ind {P : List UInt8 → Prop} (h0 : P []) (h1 : ∀ l c, P l → P (l ++ [c])) (l : List UInt8) : P l := by
  rw [← List.reverse_reverse l]
  induction l.reverse with
  | nil => exact h0
  | cons c r ih => rw [List.reverse_cons]; exact h1 _ _ ih
theorem be_bounds (l : List UInt8) : 0 ≤ be l ∧ be l < 256 ^ l.length := by
  refine rev_ind (P := fun l => 0 ≤ be l ∧ be l < 256 ^ l.length) ?_ ?_ l
  · exact ⟨Int.le_refl _, by show (0 : Int) < 1; omega⟩
  · intro l c ih
    rw [be_app1, List.length_append, List.length_singleton, Int.pow_succ]
    have := c.toNat_lt
    omega
theorem byteI_toNat (c : UInt8) : byteI (c.toNat : Int) = c := by
  apply UInt8.toNat_inj.1
  have := byteI_back (n := (c.toNat : Int)) (by omega) (by have := c.toNat_lt; omega)
  omega
theorem dig_be (l : List UInt8) : dig l.length (be l) = l := by
  refine rev_ind (P := fun l => dig l.length (be l) = l) rfl ?_ l
  · intro l c ih
    have := c.toNat_lt
    rw [be_app1, List.length_append, List.length_singleton, dig, show (be l * 256 + (c.toNat : Int)) / 256 = be l by omega, ih, show (be l * 256 + (c.toNat : Int)) % 256 = (c.toNat : Int) by omega, byteI_toNat]
theorem be_inj {l m : List UInt8} (h : l.length = m.length) (e : be l = be m) : l = m := by rw [← dig_be l, ← dig_be m, h, e]

/-! items -/
def Itm.zero : Itm := ⟨0, 0, ByteArray.empty⟩
def chk (x : Itm) : Int := if x.k < 1 ∨ 15 < x.k then 1 else if x.a < 0 ∨ 1099511627776 < x.a then 2 else if 4096 < x.b.size then 5 else 0
theorem chk_ok {x : Itm} : chk x = 0 ↔ 1 ≤ x.k ∧ x.k ≤ 15 ∧ 0 ≤ x.a ∧ x.a ≤ 1099511627776 ∧ x.b.size ≤ 4096 := by
  unfold chk
  split
  · constructor <;> intro h <;> omega
  · split
    · constructor <;> intro h <;> omega
    · split
      · constructor <;> intro h <;> omega
      · constructor
        · intro _; omega
        · intro _; rfl
theorem chk_arg {x : Itm} (h : x.k < 1 ∨ 15 < x.k) : chk x = 1 := if_pos h
theorem chk_range {x : Itm} (h1 : 1 ≤ x.k) (h2 : x.k ≤ 15) (h : x.a < 0 ∨ 1099511627776 < x.a) : chk x = 2 := by unfold chk; rw [if_neg (by omega), if_pos h]
theorem chk_size {x : Itm} (h1 : 1 ≤ x.k) (h2 : x.k ≤ 15) (h3 : 0 ≤ x.a) (h4 : x.a ≤ 1099511627776) (h : 4096 < x.b.size) : chk x = 5 := by unfold chk; rw [if_neg (by omega), if_neg (by omega), if_pos h]
theorem chk_range_of (x : Itm) : 0 ≤ chk x ∧ chk x ≤ 5 := by
  unfold chk
  split
  · omega
  · split
    · omega
    · split <;> omega

def headL (x : Itm) : List UInt8 := 87 :: byteI x.k :: (dig 6 x.a ++ dig 2 (x.b.size : Int))
def noSum (x : Itm) : List UInt8 := headL x ++ x.b.data.toList
def bytesOf (x : Itm) : List UInt8 := noSum x ++ putL (sumOf (noSum x))
theorem head_len (x : Itm) : (headL x).length = 10 := by simp [headL, dig_len]
theorem noSum_len (x : Itm) : (noSum x).length = 10 + x.b.size := by rw [noSum, List.length_append, head_len]; rfl
theorem bytes_len (x : Itm) : (bytesOf x).length = 14 + x.b.size := by rw [bytesOf, List.length_append, noSum_len, put_sum, four_len]; omega
def putV (x : Itm) : List UInt8 := if chk x = 0 then bytesOf x else []
theorem putV_ok {x : Itm} (h : chk x = 0) : putV x = bytesOf x := if_pos h
theorem putV_no {x : Itm} (h : chk x ≠ 0) : putV x = [] := if_neg h

def flat (l : List Itm) : List UInt8 := l.flatMap bytesOf
def allC : List Itm → Int
  | [] => 0
  | x :: l => if chk x = 0 then allC l else chk x
def allV (l : List Itm) : List UInt8 := if allC l = 0 then flat l else []
theorem allC_ok {l : List Itm} (h : ∀ x ∈ l, chk x = 0) : allC l = 0 := by
  induction l with
  | nil => rfl
  | cons x l ih => rw [allC, if_pos (h x (by simp))]; exact ih fun y hy => h y (by simp [hy])
theorem all_one (x : Itm) : allC [x] = chk x ∧ allV [x] = putV x := by
  have e : allC [x] = chk x := by
    by_cases h : chk x = 0
    · rw [allC, if_pos h, h]; rfl
    · rw [allC, if_neg h]
  refine ⟨e, ?_⟩
  unfold allV putV
  rw [e]
  simp [flat]
def tot (l : List Itm) : Nat := (l.map fun x => 14 + x.b.size).sum
theorem flat_len (l : List Itm) : (flat l).length = tot l := by
  induction l with
  | nil => rfl
  | cons x l ih => simp [flat, tot, bytes_len] at ih ⊢; first | done | omega
theorem flat_cons (x : Itm) (l : List Itm) : flat (x :: l) = bytesOf x ++ flat l := by simp [flat]
theorem flat_app (l m : List Itm) : flat (l ++ m) = flat l ++ flat m := by simp [flat]
theorem tot_cons (x : Itm) (l : List Itm) : tot (x :: l) = 14 + x.b.size + tot l := by simp [tot]
theorem tot_app (l m : List Itm) : tot (l ++ m) = tot l + tot m := by simp [tot]
theorem tot_take {l : List Itm} {k : Nat} (h : k < l.length) : tot (l.take (k + 1)) = tot (l.take k) + (14 + l[k].b.size) := by
  rw [List.take_add_one, List.getElem?_eq_getElem h, tot_app]; simp [tot]
theorem tot_le {l : List Itm} (h : ∀ x ∈ l, x.b.size ≤ 4096) : tot l ≤ l.length * 4110 := by
  induction l with
  | nil => simp [tot]
  | cons x l ih =>
    have h1 := h x (by simp)
    have := ih fun y hy => h y (by simp [hy])
    rw [tot_cons, List.length_cons]; omega
theorem tot_take_le (l : List Itm) (k : Nat) : tot (l.take k) ≤ tot l := by
  conv => rhs; rw [← List.take_append_drop k l, tot_app]
  omega

/-! read -/
def kd (l : List UInt8) : Int := ((l.getD 1 0).toNat : Int)
def at_ (l : List UInt8) : Int := be ((l.drop 2).take 6)
def ln (l : List UInt8) : Int := be ((l.drop 8).take 2)
def hdI (l : List UInt8) : Itm := ⟨kd l, at_ l, ByteArray.empty⟩
def hdC (l : List UInt8) : Int :=
  if l = [] then 13 else if l.head? ≠ some 87 then 3 else if l.length < 10 then 13 else if chk (hdI l) ≠ 0 then chk (hdI l) else if 4096 < ln l then 5 else 0
def hdX (l : List UInt8) : Itm := if hdC l = 0 then hdI l else .zero
def hdN (l : List UInt8) : Int := if hdC l = 0 then ln l else 0
def bodyL (l : List UInt8) : List UInt8 := (l.drop 10).take (ln l).toNat
def rdI (l : List UInt8) : Itm := ⟨kd l, at_ l, ⟨(bodyL l).toArray⟩⟩
def rdC (l : List UInt8) : Int := if hdC l ≠ 0 then hdC l else if (l.length : Int) < 14 + ln l then 13 else if fits (l.take (14 + (ln l).toNat)) = true then 0 else 4
def rdX (l : List UInt8) : Itm := if rdC l = 0 then rdI l else .zero
def rdN (l : List UInt8) : Int := if rdC l = 0 then 14 + ln l else 0
theorem ln_range (l : List UInt8) : 0 ≤ ln l ∧ ln l < 65536 := by
  have h := be_bounds ((l.drop 8).take 2)
  have h2 : ((l.drop 8).take 2).length ≤ 2 := by simp; omega
  have h3 : ((l.drop 8).take 2).length = 0 ∨ ((l.drop 8).take 2).length = 1 ∨ ((l.drop 8).take 2).length = 2 := by omega
  refine ⟨h.1, Int.lt_of_lt_of_le h.2 ?_⟩
  rcases h3 with e | e | e <;> rw [e] <;> decide
theorem at_range (l : List UInt8) : 0 ≤ at_ l ∧ at_ l < 281474976710656 := by
  have h := be_bounds ((l.drop 2).take 6)
  have h2 : ((l.drop 2).take 6).length ≤ 6 := by simp; omega
  have h3 : ∀ k : Nat, k ≤ 6 → (256 : Int) ^ k ≤ 281474976710656 := by
    intro k hk
    have : k = 0 ∨ k = 1 ∨ k = 2 ∨ k = 3 ∨ k = 4 ∨ k = 5 ∨ k = 6 := by omega
    rcases this with rfl | rfl | rfl | rfl | rfl | rfl | rfl <;> decide
  exact ⟨h.1, Int.lt_of_lt_of_le h.2 (h3 _ h2)⟩
theorem hd_nil : hdC [] = 13 := rfl
theorem hd_form {l : List UInt8} (h0 : l ≠ []) (h : l.head? ≠ some 87) : hdC l = 3 := by rw [hdC, if_neg h0, if_pos h]
theorem hd_short {l : List UInt8} (h0 : l ≠ []) (h : l.head? = some 87) (h1 : l.length < 10) : hdC l = 13 := by rw [hdC, if_neg h0, if_neg (by simpa using h), if_pos h1]
theorem hd_chk {l : List UInt8} (h : l.head? = some 87) (h1 : 10 ≤ l.length) (h2 : chk (hdI l) ≠ 0) : hdC l = chk (hdI l) := by
  rw [hdC, if_neg (by rintro rfl; simp at h1), if_neg (by simpa using h), if_neg (by omega), if_pos h2]
theorem hd_size {l : List UInt8} (h : l.head? = some 87) (h1 : 10 ≤ l.length) (h2 : chk (hdI l) = 0) (h3 : 4096 < ln l) : hdC l = 5 := by
  rw [hdC, if_neg (by rintro rfl; simp at h1), if_neg (by simpa using h), if_neg (by omega), if_neg (by simpa using h2), if_pos h3]
theorem hd_ok {l : List UInt8} (h : l.head? = some 87) (h1 : 10 ≤ l.length) (h2 : chk (hdI l) = 0) (h3 : ln l ≤ 4096) : hdC l = 0 := by
  rw [hdC, if_neg (by rintro rfl; simp at h1), if_neg (by simpa using h), if_neg (by omega), if_neg (by simpa using h2), if_neg (by omega)]
theorem hd_inv {l : List UInt8} (h : hdC l = 0) : l.head? = some 87 ∧ 10 ≤ l.length ∧ chk (hdI l) = 0 ∧ ln l ≤ 4096 := by
  unfold hdC at h
  split at h
  · omega
  · split at h
    · omega
    · split at h
      · omega
      · split at h
        · contradiction
        · split at h
          · omega
          · rename_i h1 h2 h3 h4 h5
            exact ⟨by simpa using h2, by omega, by simpa using h4, by omega⟩
theorem rd_hd {l : List UInt8} (h : hdC l ≠ 0) : rdC l = hdC l := if_pos h
theorem rd_cut {l : List UInt8} (h : hdC l = 0) (h1 : (l.length : Int) < 14 + ln l) : rdC l = 13 := by rw [rdC, if_neg (by simpa using h), if_pos h1]
theorem rd_sum {l : List UInt8} (h : hdC l = 0) (h1 : 14 + ln l ≤ (l.length : Int)) (h2 : fits (l.take (14 + (ln l).toNat)) = false) : rdC l = 4 := by
  rw [rdC, if_neg (by simpa using h), if_neg (by omega), if_neg (by rw [h2]; simp)]
theorem rd_ok {l : List UInt8} (h : hdC l = 0) (h1 : 14 + ln l ≤ (l.length : Int)) (h2 : fits (l.take (14 + (ln l).toNat)) = true) : rdC l = 0 := by
  rw [rdC, if_neg (by simpa using h), if_neg (by omega), if_pos h2]
theorem rd_inv {l : List UInt8} (h : rdC l = 0) : hdC l = 0 ∧ 14 + ln l ≤ (l.length : Int) ∧ fits (l.take (14 + (ln l).toNat)) = true := by
  unfold rdC at h
  split at h
  · contradiction
  · split at h
    · omega
    · split at h
      · rename_i h1 h2 h3
        exact ⟨by simpa using h1, by omega, h3⟩
      · omega
theorem rd_some {l : List UInt8} (h : rdC l = 0) : rdX l = rdI l ∧ rdN l = 14 + ln l := ⟨if_pos h, if_pos h⟩
theorem rd_none {l : List UInt8} (h : rdC l ≠ 0) : rdX l = .zero ∧ rdN l = 0 := ⟨if_neg h, if_neg h⟩
theorem hd_some {l : List UInt8} (h : hdC l = 0) : hdX l = hdI l ∧ hdN l = ln l := ⟨if_pos h, if_pos h⟩
theorem hd_none {l : List UInt8} (h : hdC l ≠ 0) : hdX l = .zero ∧ hdN l = 0 := ⟨if_neg h, if_neg h⟩
theorem chk_hdI {l : List UInt8} : chk (hdI l) = 0 ↔ 1 ≤ kd l ∧ kd l ≤ 15 ∧ at_ l ≤ 1099511627776 := by
  have := at_range l
  rw [chk_ok]
  show 1 ≤ kd l ∧ kd l ≤ 15 ∧ 0 ≤ at_ l ∧ at_ l ≤ 1099511627776 ∧ 0 ≤ 4096 ↔ _
  omega
theorem chk_rdI {l : List UInt8} (h : hdC l = 0) : chk (rdI l) = 0 := by
  obtain ⟨_, _, h2, h3⟩ := hd_inv h
  have := chk_hdI.1 h2
  have h4 := at_range l
  have h5 := ln_range l
  rw [chk_ok]
  refine ⟨this.1, this.2.1, h4.1, this.2.2, ?_⟩
  show (bodyL l).length ≤ 4096
  unfold bodyL
  simp
  omega

/-! what begins with an item's head -/
theorem hd_of {x : Itm} (hx : chk x = 0) (m : List UInt8) : hdC (headL x ++ m) = 0 ∧ kd (headL x ++ m) = x.k ∧ at_ (headL x ++ m) = x.a ∧ ln (headL x ++ m) = (x.b.size : Int) := by
  obtain ⟨k0, k1, a0, a1, b1⟩ := chk_ok.1 hx
  have e1 : kd (headL x ++ m) = x.k := by
    show ((byteI x.k).toNat : Int) = x.k
    exact byteI_back (by omega) (by omega)
  have e2 : at_ (headL x ++ m) = x.a := by
    have : (headL x ++ m).drop 2 = dig 6 x.a ++ (dig 2 (x.b.size : Int) ++ m) := by
      show (dig 6 x.a ++ dig 2 (x.b.size : Int)) ++ m = _
      rw [List.append_assoc]
    rw [at_, this, List.take_left' (dig_len 6 _), be_dig 6 _ a0 (by show x.a < 281474976710656; omega)]
  have e3 : ln (headL x ++ m) = (x.b.size : Int) := by
    have : (headL x ++ m).drop 8 = dig 2 (x.b.size : Int) ++ m := by
      show ((dig 6 x.a ++ dig 2 (x.b.size : Int)) ++ m).drop 6 = _
      rw [List.append_assoc, List.drop_left' (dig_len 6 _)]
    rw [ln, this, List.take_left' (dig_len 2 _), be_dig 2 _ (by omega) (by show _ < (65536 : Int); omega)]
  refine ⟨hd_ok rfl (by rw [List.length_append, head_len]; omega) (chk_hdI.2 (by rw [e1, e2]; omega)) (by rw [e3]; omega), e1, e2, e3⟩
theorem bytes_app (x : Itm) (m : List UInt8) : bytesOf x ++ m = headL x ++ (x.b.data.toList ++ (putL (sumOf (noSum x)) ++ m)) := by
  simp only [bytesOf, noSum, List.append_assoc]
theorem read_put {x : Itm} (hx : chk x = 0) (m : List UInt8) : rdC (bytesOf x ++ m) = 0 ∧ rdX (bytesOf x ++ m) = x ∧ rdN (bytesOf x ++ m) = 14 + (x.b.size : Int) := by
  have hl := bytes_len x
  obtain ⟨h0, h1, h2, h3⟩ := hd_of hx (x.b.data.toList ++ (putL (sumOf (noSum x)) ++ m))
  rw [← bytes_app] at h0 h1 h2 h3
  have hr : rdC (bytesOf x ++ m) = 0 := by
    refine rd_ok h0 (by rw [h3, List.length_append, hl]; omega) ?_
    rw [h3, show 14 + ((x.b.size : Int)).toNat = (bytesOf x).length by rw [hl]; omega, List.take_left]
    exact fits_put _
  obtain ⟨e1, e2⟩ := rd_some hr
  refine ⟨hr, ?_, by rw [e2, h3]⟩
  rw [e1]
  unfold rdI
  have hb : bodyL (bytesOf x ++ m) = x.b.data.toList := by
    unfold bodyL
    rw [h3, bytes_app, List.drop_left' (head_len x), List.take_left' (by show x.b.data.toList.length = _; rw [Array.length_toList]; show x.b.data.size = ((x.b.data.size : Int)).toNat; omega)]
  rw [h1, h2, hb, Array.toArray_toList]
theorem read_cut {x : Itm} (hx : chk x = 0) {j : Nat} (hj : j < 14 + x.b.size) (m : List UInt8) : rdC ((bytesOf x ++ m).take j) ≠ 0 := by
  intro h
  obtain ⟨h0, h1, h2⟩ := rd_inv h
  obtain ⟨_, h3, _, _⟩ := hd_inv h0
  have hl := bytes_len x
  have hj10 : 10 ≤ j := by rw [List.length_take] at h3; omega
  have e : (bytesOf x ++ m).take j = headL x ++ (x.b.data.toList ++ (putL (sumOf (noSum x)) ++ m)).take (j - 10) := by
    rw [bytes_app, List.take_append, head_len, List.take_of_length_le (by rw [head_len]; omega)]
  obtain ⟨_, _, _, g⟩ := hd_of hx ((x.b.data.toList ++ (putL (sumOf (noSum x)) ++ m)).take (j - 10))
  rw [← e] at g
  rw [g, List.length_take, List.length_append, hl] at h1
  omega

/-! an item that is read, put again -/
theorem head_back {l : List UInt8} (h : hdC l = 0) (h1 : 14 + ln l ≤ (l.length : Int)) : headL (rdI l) = l.take 10 := by
  obtain ⟨h2, h3, h4, h5⟩ := hd_inv h
  have hl := ln_range l
  match l, h2, h3 with
  | a :: b :: r, h2, h3 =>
    obtain rfl : a = 87 := by simpa using h2
    have hr : 8 ≤ r.length := by simpa using h3
    have e1 : byteI (kd (87 :: b :: r)) = b := byteI_toNat b
    have e2 : dig 6 (at_ (87 :: b :: r)) = r.take 6 := by
      have := dig_be (r.take 6)
      rw [List.length_take, Nat.min_eq_left (by omega)] at this
      exact this
    have e3 : ((rdI (87 :: b :: r)).b.size : Int) = ln (87 :: b :: r) := by
      show ((bodyL (87 :: b :: r)).length : Int) = _
      unfold bodyL
      rw [List.length_take, List.length_drop]
      omega
    have e4 : dig 2 (ln (87 :: b :: r)) = (r.drop 6).take 2 := by
      have := dig_be ((r.drop 6).take 2)
      rw [List.length_take, List.length_drop, Nat.min_eq_left (by omega)] at this
      exact this
    unfold headL
    rw [e3, e4]
    show 87 :: byteI (kd (87 :: b :: r)) :: (dig 6 (at_ (87 :: b :: r)) ++ _) = _
    rw [e1, e2, ← List.take_add]
    rfl
theorem put_back {l : List UInt8} (h : hdC l = 0) (h1 : 14 + ln l ≤ (l.length : Int)) : (l.take (14 + (ln l).toNat) = bytesOf (rdI l)) ↔ fits (l.take (14 + (ln l).toNat)) = true := by
  have hl := ln_range l
  have e0 : noSum (rdI l) = l.take (10 + (ln l).toNat) := by
    rw [noSum, head_back h h1, List.take_add]; rfl
  have el : (l.take (14 + (ln l).toNat)).length = 14 + (ln l).toNat := by rw [List.length_take]; omega
  have e1 : (l.take (14 + (ln l).toNat)).take (10 + (ln l).toNat) = noSum (rdI l) := by rw [e0, List.take_take, Nat.min_eq_left (by omega)]
  rw [fits_long (by omega), el, show 14 + (ln l).toNat - 4 = 10 + (ln l).toNat by omega, e1, beq_iff_eq]
  conv => lhs; lhs; rw [← List.take_append_drop (10 + (ln l).toNat) (l.take (14 + (ln l).toNat)), e1]
  rw [bytesOf, List.append_cancel_left_eq]
  exact eq_comm

/-! one behind the other -/
set_option linter.unusedVariables false in
def scan (l : List UInt8) : List Itm × Int :=
  if h : rdC l = 0 then (rdX l :: (scan (l.drop (14 + (ln l).toNat))).1, rdN l + (scan (l.drop (14 + (ln l).toNat))).2) else ([], 0)
termination_by l.length
decreasing_by
  all_goals
    have := (rd_inv h).2.1
    have := ln_range l
    rw [List.length_drop]; omega
theorem scan_ok {l : List UInt8} (h : rdC l = 0) : scan l = (rdX l :: (scan (l.drop (14 + (ln l).toNat))).1, rdN l + (scan (l.drop (14 + (ln l).toNat))).2) := by
  rw [scan, dif_pos h]
theorem scan_no {l : List UInt8} (h : rdC l ≠ 0) : scan l = ([], 0) := by rw [scan, dif_neg h]
/-- how many items are there whole -/
def fitn : List Itm → Nat → Nat
  | [], _ => 0
  | x :: l, j => if 14 + x.b.size ≤ j then fitn l (j - (14 + x.b.size)) + 1 else 0
theorem fitn_le (l : List Itm) : ∀ j, fitn l j ≤ l.length := by
  induction l with
  | nil => intro j; exact Nat.le_refl _
  | cons x l ih =>
    intro j
    rw [fitn]; split
    · have := ih (j - (14 + x.b.size)); simp; omega
    · omega
theorem scan_torn {l : List Itm} (h : ∀ x ∈ l, chk x = 0) : ∀ j, scan ((flat l).take j) = (l.take (fitn l j), ((tot (l.take (fitn l j)) : Nat) : Int)) := by
  induction l with
  | nil => intro j; show scan (([] : List UInt8).take j) = _; rw [List.take_nil, scan_no (by decide)]; rfl
  | cons x l ih =>
    intro j
    have hx := h x (by simp)
    have ih' := ih fun y hy => h y (by simp [hy])
    have hl := bytes_len x
    by_cases hj : 14 + x.b.size ≤ j
    · have e : (flat (x :: l)).take j = bytesOf x ++ (flat l).take (j - (14 + x.b.size)) := by
        rw [flat_cons, List.take_append, hl, List.take_of_length_le (by omega)]
      obtain ⟨r1, r2, r3⟩ := read_put hx ((flat l).take (j - (14 + x.b.size)))
      have e2 : 14 + (ln (bytesOf x ++ (flat l).take (j - (14 + x.b.size)))).toNat = (bytesOf x).length := by
        have := (rd_some r1).2
        rw [r3] at this
        rw [hl]; omega
      rw [e, scan_ok r1, e2, List.drop_left, r2, r3, ih', fitn, if_pos hj, List.take_succ_cons, tot_cons]
      congr 1
    · rw [flat_cons, scan_no (read_cut hx (by omega) _), fitn, if_neg hj]; rfl
theorem fitn_next (l : List Itm) : ∀ (j k : Nat) (hk : k < l.length), k ≤ fitn l j → (14 + (l[k]'hk).b.size + tot (l.take k) ≤ j ↔ k < fitn l j) := by
  induction l with
  | nil => intro j k hk; simp at hk
  | cons x l ih =>
    intro j k hk hf
    cases k with
    | zero =>
      rw [fitn]
      split
      · rename_i h; simp [tot]; omega
      · rename_i h; simp [tot]; omega
    | succ k =>
      rw [fitn] at hf ⊢
      by_cases h : 14 + x.b.size ≤ j
      · rw [if_pos h] at hf ⊢
        have := ih (j - (14 + x.b.size)) k (by simpa using hk) (by omega)
        rw [List.take_succ_cons, tot_cons]
        show 14 + (l[k]'(by simpa using hk)).b.size + (14 + x.b.size + tot (l.take k)) ≤ j ↔ _
        omega
      · rw [if_neg h] at hf; omega

/-! a byte that was turned -/
theorem four_inj {m n : Int} (m0 : 0 ≤ m) (m1 : m < 2147483647) (n0 : 0 ≤ n) (n1 : n < 2147483647) (h : four m = four n) : m = n := by
  rw [← be_put m0 m1, ← be_put n0 n1, h]
theorem set_ne {l : List UInt8} {i : Nat} {c : UInt8} (hi : i < l.length) (hc : c ≠ l[i]) : l.set i c ≠ l := by
  intro e
  apply hc
  have : (l.set i c)[i]'(by simpa using hi) = c := by simp
  rw [← this]
  congr 1
theorem turned_far {x : Itm} (hx : chk x = 0) {i : Nat} {c : UInt8} (hi : i < (bytesOf x).length) (hc : c ≠ (bytesOf x)[i]) (h8 : i ≠ 8) (h9 : i ≠ 9) : rdC ((bytesOf x).set i c) ≠ 0 := by
  intro h
  obtain ⟨h0, h1, h2⟩ := rd_inv h
  obtain ⟨h3, _, _, _⟩ := hd_inv h0
  have hl := bytes_len x
  have hn := noSum_len x
  have hp : bytesOf x = headL x ++ (x.b.data.toList ++ (putL (sumOf (noSum x)) ++ [])) := by rw [← bytes_app, List.append_nil]
  by_cases hi0 : i = 0
  · subst hi0
    have e : (bytesOf x)[0] = 87 := by simp only [hp]; rfl
    rw [e] at hc
    rw [hp] at h3
    exact hc (by simpa [headL] using h3)
  · have e : ln ((bytesOf x).set i c) = (x.b.size : Int) := by
      have g := (hd_of hx (x.b.data.toList ++ (putL (sumOf (noSum x)) ++ []))).2.2.2
      rw [← hp] at g
      rw [← g]
      unfold ln
      congr 1
      rw [List.drop_set]
      split
      · rfl
      · rw [List.take_set, List.set_eq_of_length_le (by simp; omega)]
    rw [e, show 14 + ((x.b.size : Int)).toNat = 14 + x.b.size by omega, List.take_of_length_le (by simp; omega), fits_long (by simp; omega), List.length_set, hl, show 14 + x.b.size - 4 = 10 + x.b.size by omega, beq_iff_eq] at h2
    have t : (bytesOf x).take (10 + x.b.size) = noSum x := by rw [← hn, bytesOf, List.take_left]
    have d : (bytesOf x).drop (10 + x.b.size) = putL (sumOf (noSum x)) := by rw [← hn, bytesOf, List.drop_left]
    rw [List.take_set, t, List.drop_set, d] at h2
    by_cases hi1 : i < 10 + x.b.size
    · rw [if_pos hi1, put_sum, put_sum] at h2
      have r1 := sumOf_range ((noSum x).set i c)
      have r2 := sumOf_range (noSum x)
      have hs := four_inj r1.1 r1.2 r2.1 r2.2 h2
      have hi2 : i < (noSum x).length := by omega
      rw [turned hi2] at hs
      apply hc
      rw [hs]
      simp only [bytesOf]
      rw [List.getElem_append_left hi2]
    · rw [if_neg hi1, List.set_eq_of_length_le (by omega)] at h2
      have hi3 : i - (10 + x.b.size) < (putL (sumOf (noSum x))).length := by rw [put_sum, four_len]; omega
      refine set_ne hi3 ?_ h2.symm
      intro e2
      apply hc
      rw [e2]
      simp only [bytesOf]
      rw [List.getElem_append_right (by omega)]
      congr 1
      omega
theorem turned_near {x : Itm} (hx : chk x = 0) {i : Nat} {c : UInt8} (hi : i < (bytesOf x).length) (hc : c ≠ (bytesOf x)[i]) (h8 : i = 8 ∨ i = 9) (h : rdC ((bytesOf x).set i c) = 0) :
    (rdX ((bytesOf x).set i c)).b.size < x.b.size ∧ rdN ((bytesOf x).set i c) < 14 + (x.b.size : Int) := by
  obtain ⟨h0, h1, h2⟩ := rd_inv h
  obtain ⟨e1, e2⟩ := rd_some h
  have hl := bytes_len x
  have hp : bytesOf x = headL x ++ (x.b.data.toList ++ (putL (sumOf (noSum x)) ++ [])) := by rw [← bytes_app, List.append_nil]
  have g := (hd_of hx (x.b.data.toList ++ (putL (sumOf (noSum x)) ++ []))).2.2.2
  rw [← hp] at g
  have r := ln_range ((bytesOf x).set i c)
  have hne : ln ((bytesOf x).set i c) ≠ (x.b.size : Int) := by
    rw [← g]
    unfold ln
    rw [List.drop_set, if_neg (by omega), List.take_set]
    intro e
    have := be_inj (by simp) e
    have hi2 : i - 8 < (((bytesOf x).drop 8).take 2).length := by simp; omega
    refine set_ne hi2 ?_ this
    intro e3
    apply hc
    rw [e3]
    simp only [List.getElem_take, List.getElem_drop]
    congr 1
    omega
  rw [List.length_set, hl] at h1
  rw [e1, e2]
  refine ⟨?_, by omega⟩
  show (bodyL _).length < _
  unfold bodyL
  rw [List.length_take]
  omega

end Go.Proofs.YtpaeemkdjgbejaaGreat.Rec
end

section
namespace Go.Proofs.YtpaeemkdjgbejaaGreat.Jrn
open Go.Proofs.YtpaeemkdjgbejaaGreat.Sto Go.Proofs.YtpaeemkdjgbejaaGreat.Gen
open Go.Proofs.YtpaeemkdjgbejaaGreat.Rec (Itm chk bytesOf flat)

/-! ### an item's bytes are put -/
def fullB (t : St) (b : Bs) (size : Int) (s : Bs) : Bool := decide (0 < (got t.L b).bs.length) && decide (size < ((got t.L b).bs.length : Int) + s.length)
def putT (t : St) (b : Bs) (K : Nat) (size : Int) (s : Bs) : St :=
  if fullB t b size s = true then
    (if synC t b = 0 then (if trC (synT t b) (ser b K) = 0 then appT (trT (synT t b) (ser b K)) b s else trT (synT t b) (ser b K)) else synT t b)
  else appT t b s
def putC (t : St) (b : Bs) (K : Nat) (size : Int) (s : Bs) : Int :=
  if fullB t b size s = true then
    (if synC t b = 0 then (if trC (synT t b) (ser b K) = 0 then appC (trT (synT t b) (ser b K)) b s else trC (synT t b) (ser b K)) else synC t b)
  else appC t b s
section
variable {t : St} {b s : Bs} {K : Nat} {size : Int}
theorem put_room (h : fullB t b size s = false) : putT t b K size s = appT t b s ∧ putC t b K size s = appC t b s := by
  unfold putT putC; rw [h]; exact ⟨rfl, rfl⟩
theorem put_syn (h : fullB t b size s = true) (h1 : ¬ synC t b = 0) : putT t b K size s = synT t b ∧ putC t b K size s = synC t b := by
  unfold putT putC; rw [if_pos h, if_pos h, if_neg h1, if_neg h1]; exact ⟨rfl, rfl⟩
theorem put_turn (h : fullB t b size s = true) (h1 : synC t b = 0) (h2 : ¬ trC (synT t b) (ser b K) = 0) : putT t b K size s = trT (synT t b) (ser b K) ∧ putC t b K size s = trC (synT t b) (ser b K) := by
  unfold putT putC; rw [if_pos h, if_pos h, if_pos h1, if_pos h1, if_neg h2, if_neg h2]; exact ⟨rfl, rfl⟩
theorem put_new (h : fullB t b size s = true) (h1 : synC t b = 0) (h2 : trC (synT t b) (ser b K) = 0) : putT t b K size s = appT (trT (synT t b) (ser b K)) b s ∧ putC t b K size s = appC (trT (synT t b) (ser b K)) b s := by
  unfold putT putC; rw [if_pos h, if_pos h, if_pos h1, if_pos h1, if_pos h2, if_pos h2]; exact ⟨rfl, rfl⟩
end

/-! ### files as what is held, and how much of it is sure -/
def cel (t : St) (a : Bs) : Option (Bs × Nat) := (flk t.L a).map fun x => (x.bs, x.sure)
theorem cel_same {t t' : St} (h : t'.L = t.L) (a : Bs) : cel t' a = cel t a := by unfold cel; rw [h]
theorem cel_got {t : St} {a : Bs} : cel t a = none ∧ got t.L a = ⟨a, [], 0⟩ ∧ (flk t.L a).isSome = false ∨ cel t a = some ((got t.L a).bs, (got t.L a).sure) ∧ (flk t.L a).isSome = true := by
  unfold cel
  cases h : flk t.L a with
  | none => exact .inl ⟨rfl, got_none h, rfl⟩
  | some x => rw [got_some h]; exact .inr ⟨rfl, rfl⟩
theorem cel_has (t : St) (a : Bs) : has t a = (cel t a).map Prod.fst := by
  unfold has cel; cases flk t.L a <;> rfl
theorem cel_none {t : St} {a : Bs} : cel t a = none ↔ flk t.L a = none := by unfold cel; simp
theorem cel_is (t : St) (a : Bs) : (cel t a).isSome = (flk t.L a).isSome := by unfold cel; simp
theorem cel_pt {t : St} (h : Ok t) (x : Fl) (c : Bs) (m b : Int) : cel ⟨fpt t.L x, m, b⟩ c = if c = x.nm then some (x.bs, x.sure) else cel t c := by
  unfold cel
  show (flk (fpt t.L x) c).map _ = _
  rw [fpt, flk, h.rise.lk_pt]
  split <;> rfl
theorem cel_wo {t : St} (h : Ok t) (a c : Bs) (m b : Int) : cel ⟨fwo t.L a, m, b⟩ c = if c = a then none else cel t c := by
  unfold cel
  show (flk (fwo t.L a) c).map _ = _
  rw [fwo, flk, h.rise.lk_wo]
  split <;> rfl
theorem app_cel {t : St} (h : Ok t) {a s : Bs} (hc : appC t a s = 0) (c : Bs) : cel (appT t a s) c = if c = a then some ((got t.L a).bs ++ s, (got t.L a).sure) else cel t c := by
  unfold appC at hc
  unfold appT
  split at hc
  · rename_i h0
    rw [if_pos h0]
    split at hc
    · cases hc
    · rename_i h1
      rw [if_neg h1, cel_pt h]
  · rename_i h0
    exact absurd hc h0
theorem app_no {t : St} {a s : Bs} (hc : ¬ appC t a s = 0) : (appT t a s).L = t.L := by
  unfold appC at hc
  unfold appT
  split at hc
  · rename_i h0
    rw [if_pos h0]
    split at hc
    · rename_i h1; rw [if_pos h1]
    · exact absurd rfl hc
  · rename_i h0
    rw [if_neg h0]; unfold begT; split <;> rfl
theorem syn_cel {t : St} (h : Ok t) {a : Bs} (hc : synC t a = 0) (c : Bs) : cel (synT t a) c = if c = a then some ((got t.L a).bs, (got t.L a).bs.length) else cel t c := by
  unfold synC at hc
  unfold synT
  split at hc
  · rename_i h0
    rw [if_pos h0]
    split at hc
    · rename_i h1
      rw [if_pos h1, cel_pt h]
    · cases hc
  · rename_i h0
    exact absurd hc h0
theorem syn_bad {t : St} {a : Bs} (hc : synC t a = 0) : ¬ 0 < (synT t a).bad ∧ (flk t.L a).isSome = true := by
  unfold synC at hc
  unfold synT
  split at hc
  · rename_i h0
    rw [if_pos h0]
    split at hc
    · rename_i h1
      rw [if_pos h1]
      refine ⟨fun hb => ?_, h1⟩
      have := (begC_io (beg_nm h0) (show 0 < t.bad from hb)).1
      rw [this] at h0; cases h0
    · cases hc
  · rename_i h0
    exact absurd hc h0
theorem syn_no {t : St} {a : Bs} (hc : ¬ synC t a = 0) : (synT t a).L = t.L := by
  unfold synC at hc
  unfold synT
  split at hc
  · rename_i h0
    rw [if_pos h0]
    split at hc
    · exact absurd rfl hc
    · rename_i h1; rw [if_neg h1]
  · rename_i h0
    rw [if_neg h0]; unfold begT; split <;> rfl
theorem syn_gone {t : St} {a : Bs} (hc : synC t a = 7) : flk t.L a = none := by
  unfold synC at hc
  split at hc
  · split at hc
    · cases hc
    · rename_i h1; simpa using h1
  · rename_i h0
    unfold begC at hc
    split at hc
    · split at hc <;> cases hc
    · cases hc
theorem ren_cel {t : St} (h : Ok t) (hb : ¬ 0 < t.bad) {a p : Bs} (hn : isNm a = true) (hp : isNm p = true) (hs : (flk t.L a).isSome = true) (c : Bs) :
    cel (renT t a p) c = if c = p then cel t a else if c = a then none else cel t c := by
  have h0 := (begC_ok (t := t) hn hb).1
  have e : renT t a p = ⟨fpt (fwo t.L a) ⟨p, (got t.L a).bs, (got t.L a).sure⟩, t.most, t.bad⟩ := by unfold renT; rw [if_pos h0, if_pos ⟨hp, hs⟩]
  rw [e, cel_pt (t := ⟨fwo t.L a, t.most, t.bad⟩) (h.wo a), cel_wo h]
  rcases cel_got (t := t) (a := a) with ⟨_, _, h3⟩ | ⟨h3, _⟩
  · rw [hs] at h3; cases h3
  · rw [h3]
theorem rem_cel {t : St} (h : Ok t) (hb : ¬ 0 < t.bad) {a : Bs} (hn : isNm a = true) (hs : (flk t.L a).isSome = true) (c : Bs) : cel (remT t a) c = if c = a then none else cel t c := by
  have h0 := (begC_ok (t := t) hn hb).1
  have e : remT t a = ⟨fwo t.L a, t.most, t.bad⟩ := by unfold remT; rw [if_pos h0, if_pos hs]
  rw [e, cel_wo h]
theorem nm_ne (b : Bs) {i k : Nat} (h : i ≠ k) : nm b (i : Nat) ≠ nm b (k : Nat) := fun e => by
  have := (nm_inj b).1 e
  omega
theorem not_ser {b c : Bs} {k : Nat} : c ∉ ser b (k + 1) ↔ c ≠ nm b (k : Nat) ∧ c ∉ ser b k := by
  rw [ser, List.mem_cons]; simp [not_or]
theorem nm_out (b : Bs) {i k : Nat} (h : k ≤ i) : nm b (i : Nat) ∉ ser b k := fun hm => by
  obtain ⟨l, h1, h2⟩ := ser_mem.1 hm
  exact nm_ne b (show i ≠ l by omega) h2
/-- the renamings of a turn -/
theorem rn_cel (b : Bs) (k : Nat) : ∀ t : St, Ok t → ¬ 0 < t.bad → (∀ i, i ≤ k → isNm (nm b (i : Nat)) = true) → cel t (nm b (k : Nat)) = none →
    (∀ i, i < k → cel (rnT t (nm b (k : Nat)) (ser b k)) (nm b ((i + 1 : Nat) : Int)) = cel t (nm b (i : Nat))) ∧ cel (rnT t (nm b (k : Nat)) (ser b k)) (nm b 0) = none ∧
      ∀ c, c ∉ ser b (k + 1) → cel (rnT t (nm b (k : Nat)) (ser b k)) c = cel t c := by
  induction k with
  | zero =>
    intro t _ _ _ h0
    exact ⟨fun i hi => by omega, h0, fun _ _ => rfl⟩
  | succ k ih =>
    intro t hok hb hnm hp
    have hnk := hnm k (by omega)
    have hnp := hnm (k + 1) (by omega)
    have hnr : ∀ i, i ≤ k → isNm (nm b (i : Nat)) = true := fun i hi => hnm i (by omega)
    have es : ser b (k + 1) = nm b (k : Nat) :: ser b k := rfl
    cases hs : (flk t.L (nm b (k : Nat))).isSome with
    | false =>
      have hq : cel t (nm b (k : Nat)) = none := by have := cel_is t (nm b (k : Nat)); rw [hs] at this; simpa using this
      have e1 : rnT t (nm b ((k + 1 : Nat) : Int)) (ser b (k + 1)) = rnT t (nm b (k : Nat)) (ser b k) := by rw [es, (rn_skip hs).1]
      obtain ⟨i1, i2, i3⟩ := ih t hok hb hnr hq
      rw [e1]
      refine ⟨fun i hi => ?_, i2, fun c hc => i3 c (not_ser.1 hc).2⟩
      by_cases hik : i = k
      · subst hik
        rw [i3 _ (nm_out b (by omega)), hp, hq]
      · exact i1 i (by omega)
    | true =>
      have g := ren_goes hok hb hnk hnp hs
      have gc := ren_cel hok hb hnk hnp hs
      have e1 : rnT t (nm b ((k + 1 : Nat) : Int)) (ser b (k + 1)) = rnT (renT t (nm b (k : Nat)) (nm b ((k + 1 : Nat) : Int))) (nm b (k : Nat)) (ser b k) := by rw [es, (rn_go hs g.1).1]
      have hkk : nm b (k : Nat) ≠ nm b ((k + 1 : Nat) : Int) := nm_ne b (by omega)
      obtain ⟨i1, i2, i3⟩ := ih (renT t (nm b (k : Nat)) (nm b ((k + 1 : Nat) : Int))) g.2.1 (by rw [g.2.2.1]; exact hb) hnr (by rw [gc, if_neg hkk, if_pos rfl])
      rw [e1]
      refine ⟨fun i hi => ?_, i2, fun c hc => ?_⟩
      · by_cases hik : i = k
        · subst hik
          rw [i3 _ (nm_out b (by omega)), gc, if_pos rfl]
        · rw [i1 i (by omega), gc, if_neg (nm_ne b (by omega)), if_neg (nm_ne b (by omega))]
      · obtain ⟨h1, h2⟩ := not_ser.1 hc
        rw [i3 c h2, gc, if_neg h1, if_neg (not_ser.1 h2).1]
/-- a whole turn -/
theorem tr_cel (b : Bs) (k : Nat) (t : St) (hok : Ok t) (hb : ¬ 0 < t.bad) (hnm : ∀ i, i ≤ k → isNm (nm b (i : Nat)) = true) :
    trC t (ser b (k + 1)) = 0 ∧ Ok (trT t (ser b (k + 1))) ∧ (∀ i, i < k → cel (trT t (ser b (k + 1))) (nm b ((i + 1 : Nat) : Int)) = cel t (nm b (i : Nat))) ∧ cel (trT t (ser b (k + 1))) (nm b 0) = none ∧
      ∀ c, c ∉ ser b (k + 1) → cel (trT t (ser b (k + 1))) c = cel t c := by
  have es : ser b (k + 1) = nm b (k : Nat) :: ser b k := rfl
  have hall : ∀ x ∈ nm b (k : Nat) :: ser b k, isNm x = true := fun x hx => by
    rw [← es] at hx
    obtain ⟨i, h1, rfl⟩ := ser_mem.1 hx
    exact hnm i (by omega)
  have hg := tr_goes (nm b (k : Nat)) (ser b k) t hok hb (by rw [← es]; exact ser_nodup b (k + 1)) hall
  rw [← es] at hg
  refine ⟨hg.1, hg.2.1, ?_⟩
  cases hs : (flk t.L (nm b (k : Nat))).isSome with
  | false =>
    have hq : cel t (nm b (k : Nat)) = none := by have := cel_is t (nm b (k : Nat)); rw [hs] at this; simpa using this
    have e1 : trT t (ser b (k + 1)) = rnT t (nm b (k : Nat)) (ser b k) := by rw [es, (tr_skip hs).1]
    rw [e1]
    exact rn_cel b k t hok hb hnm hq
  | true =>
    have g := rem_goes hok hb (hnm k (by omega)) hs
    have gc := rem_cel hok hb (hnm k (by omega)) hs
    have e1 : trT t (ser b (k + 1)) = rnT (remT t (nm b (k : Nat))) (nm b (k : Nat)) (ser b k) := by rw [es, (tr_go hs g.1).1]
    rw [e1]
    obtain ⟨i1, i2, i3⟩ := rn_cel b k (remT t (nm b (k : Nat))) g.2.1 (by rw [g.2.2.1]; exact hb) hnm (by rw [gc, if_pos rfl])
    refine ⟨fun i hi => ?_, i2, fun c hc => ?_⟩
    · rw [i1 i hi, gc, if_neg (nm_ne b (by omega))]
    · rw [i3 c hc, gc, if_neg (not_ser.1 hc).1]

/-! ### a crash -/
theorem crs_cel {t : St} (h : Ok t) (ks : List Int) (a : Bs) : (cel t a = none ∧ cel (crs t ks) a = none) ∨
    ∃ l s j, cel t a = some (l, s) ∧ s ≤ j ∧ j ≤ l.length ∧ cel (crs t ks) a = some (l.take j, j) := by
  have hr : Rise Fl.nm (crs t ks).L := crs_rise h.rise ks
  cases hl : flk t.L a with
  | none =>
    refine .inl ⟨cel_none.2 hl, cel_none.2 (lk_none.2 fun x hx e => ?_)⟩
    have hm : a ∈ (crsL t.L ks).map Fl.nm := List.mem_map.2 ⟨x, hx, e⟩
    rw [crs_names] at hm
    obtain ⟨y, hy, hy2⟩ := List.mem_map.1 hm
    exact (lk_none (nm := Fl.nm)).1 hl y hy hy2
  | some x =>
    obtain ⟨hx, hxa⟩ := lk_some hl
    obtain ⟨i, hi, rfl⟩ := List.getElem_of_mem hx
    obtain ⟨c1, c2⟩ := cutN_le (h.sures _ hx) (ks.getD i 0)
    refine .inr ⟨_, _, cutN t.L[i] (ks.getD i 0), by unfold cel; rw [hl]; rfl, c1, c2, ?_⟩
    have hlk : flk (crs t ks).L a = some (cutF t.L[i] (ks.getD i 0)) := by
      refine hr.lk.2 ⟨?_, hxa⟩
      show cutF t.L[i] (ks.getD i 0) ∈ crsL t.L ks
      rw [← crs_at t.L ks i hi]
      exact List.getElem_mem _
    unfold cel
    rw [hlk]; rfl

/-! ### generations of items -/
abbrev Gs := Nat → Option (List Itm)
def cat (G : Gs) : Nat → List Itm
  | 0 => []
  | k + 1 => (G k).getD [] ++ cat G k
def old (G : Gs) : Gs
  | 0 => none
  | i + 1 => G i
theorem cat_old (G : Gs) (k : Nat) : cat (old G) (k + 1) = cat G k := by
  induction k with
  | zero => rfl
  | succ k ih =>
    show (G k).getD [] ++ cat (old G) (k + 1) = _
    rw [ih]; rfl
def more (G : Gs) (l : List Itm) : Gs := fun i => if i = 0 then some l else G i
theorem cat_more (G : Gs) (l : List Itm) (k : Nat) : ∃ p, cat (more G l) (k + 1) = p ++ l ∧ cat G (k + 1) = p ++ (G 0).getD [] := by
  induction k with
  | zero => exact ⟨[], by simp [cat, more], by simp [cat]⟩
  | succ k ih =>
    obtain ⟨p, h1, h2⟩ := ih
    refine ⟨(G (k + 1)).getD [] ++ p, ?_, ?_⟩
    · show (more G l (k + 1)).getD [] ++ cat (more G l) (k + 1) = _
      rw [h1, more, if_neg (by omega), List.append_assoc]
    · show (G (k + 1)).getD [] ++ cat G (k + 1) = _
      rw [h2, List.append_assoc]
theorem cat_mem {G : Gs} {K i : Nat} {l : List Itm} (h : i < K) (hl : G i = some l) : ∀ x ∈ l, x ∈ cat G K := by
  induction K with
  | zero => omega
  | succ K ih =>
    intro x hx
    show x ∈ (G K).getD [] ++ cat G K
    by_cases hi : i = K
    · subst hi; rw [hl]; exact List.mem_append_left _ hx
    · exact List.mem_append_right _ (ih (by omega) x hx)

/-- what the store holds: generations of items, of the newest so many are sure -/
structure Held (t : St) (K : Nat) (G : Gs) (m : Nat) : Prop where
  older : ∀ i, i < K → i ≠ 0 → cel t (nm lg (i : Nat)) = (G i).map fun l => (flat l, (flat l).length)
  new : cel t lg = (G 0).map fun l => (flat l, (flat (l.take m)).length)
  mle : m ≤ ((G 0).getD []).length
  other : ∀ a, a ∉ ser lg K → flk t.L a = none
theorem Held.same {t t' : St} {K m : Nat} {G : Gs} (h : Held t K G m) (e : t'.L = t.L) : Held t' K G m :=
  ⟨fun i h1 h2 => (cel_same e _).trans (h.older i h1 h2), (cel_same e _).trans h.new, h.mle, fun a ha => by rw [e]; exact h.other a ha⟩
theorem nm_lg0 : nm lg ((0 : Nat) : Int) = lg := nm_zero lg (by omega)
theorem nm_lg {i : Nat} (h : i ≠ 0) : nm lg (i : Nat) ≠ lg := fun e => nm_ne lg h (e.trans nm_lg0.symm)
/-- more of the newest -/
theorem Held.app {t : St} {K m : Nat} {G : Gs} (h : Held t K G m) (hok : Ok t) (hK : 1 ≤ K) {x : Itm} (hc : appC t lg (bytesOf x) = 0) : Held (appT t lg (bytesOf x)) K (more G ((G 0).getD [] ++ [x])) m := by
  have e := app_cel hok hc
  have hm := h.mle
  have hf : flat ((G 0).getD [] ++ [x]) = flat ((G 0).getD []) ++ bytesOf x := by rw [Rec.flat_app, Rec.flat_cons]; simp [flat]
  have hg : (got t.L lg).bs = flat ((G 0).getD []) ∧ (got t.L lg).sure = (flat (((G 0).getD []).take m)).length := by
    have hn := h.new
    rcases cel_got (t := t) (a := lg) with ⟨h1, h2, _⟩ | ⟨h1, _⟩
    · rw [h1] at hn
      cases hg0 : G 0 with
      | none => rw [h2]; simp [flat]
      | some l => rw [hg0] at hn; cases hn
    · rw [h1] at hn
      cases hg0 : G 0 with
      | none => rw [hg0] at hn; cases hn
      | some l =>
        rw [hg0] at hn
        simp only [Option.map_some, Option.some.injEq, Prod.mk.injEq] at hn
        exact hn
  refine ⟨fun i h1 h2 => ?_, ?_, ?_, fun a ha => ?_⟩
  · rw [e, if_neg (nm_lg h2), h.older i h1 h2, more, if_neg h2]
  · rw [e, if_pos rfl, more, if_pos rfl, Option.map_some, hg.1, hg.2, hf, List.take_append_of_le_length hm]
  · rw [more, if_pos rfl, Option.getD_some, List.length_append]; omega
  · have hne : a ≠ lg := fun e => ha (by rw [e]; exact lg_in hK)
    exact cel_none.1 (by rw [e, if_neg hne]; exact cel_none.2 (h.other a ha))
/-- all of the newest is sure -/
theorem Held.syn {t : St} {K m : Nat} {G : Gs} (h : Held t K G m) (hok : Ok t) (hK : 1 ≤ K) (hc : synC t lg = 0) : Held (synT t lg) K G ((G 0).getD []).length ∧ (G 0).isSome = true := by
  have e := syn_cel hok hc
  have hs := (syn_bad hc).2
  have hn := h.new
  rcases cel_got (t := t) (a := lg) with ⟨_, _, h3⟩ | ⟨h1, _⟩
  · rw [hs] at h3; cases h3
  · rw [h1] at hn
    cases hg0 : G 0 with
    | none => rw [hg0] at hn; cases hn
    | some l =>
      rw [hg0] at hn
      simp only [Option.map_some, Option.some.injEq, Prod.mk.injEq] at hn
      refine ⟨⟨fun i h1 h2 => ?_, ?_, by rw [hg0]; exact Nat.le_refl _, fun a ha => ?_⟩, rfl⟩
      · rw [e, if_neg (nm_lg h2), h.older i h1 h2]
      · rw [e, if_pos rfl, hg0, Option.map_some, hn.1, Option.getD_some, List.take_length]
      · have hne : a ≠ lg := fun e => ha (by rw [e]; exact lg_in hK)
        exact cel_none.1 (by rw [e, if_neg hne]; exact cel_none.2 (h.other a ha))
/-- a turn -/
theorem Held.turn {t : St} {k : Nat} {G : Gs} (h : Held t (k + 1) G ((G 0).getD []).length) (hok : Ok t) (hb : ¬ 0 < t.bad) (hk : k < 16) :
    trC t (ser lg (k + 1)) = 0 ∧ Ok (trT t (ser lg (k + 1))) ∧ Held (trT t (ser lg (k + 1))) (k + 1) (old G) 0 := by
  obtain ⟨h1, h2, h3, h4, h5⟩ := tr_cel lg k t hok hb fun i hi => lg_nm (by omega)
  refine ⟨h1, h2, fun i hi h0 => ?_, ?_, Nat.zero_le _, fun a ha => ?_⟩
  · obtain ⟨j, rfl⟩ : ∃ j, i = j + 1 := ⟨i - 1, by omega⟩
    rw [h3 j (by omega)]
    show _ = (G j).map _
    by_cases hj : j = 0
    · subst hj
      rw [nm_lg0, h.new]
      cases hg0 : G 0 with
      | none => rfl
      | some l => simp [List.take_length]
    · exact h.older j (by omega) hj
  · rw [show nm lg 0 = lg from nm_lg0] at h4
    rw [h4]; rfl
  · exact cel_none.1 (by rw [h5 a ha]; exact cel_none.2 (h.other a ha))

/-- what is held is a piece of what was taken, and its end; so much of it is sure -/
structure Hist (t : St) (K : Nat) (A : List Itm) (u : Nat) : Prop where
  chks : ∀ x ∈ A, chk x = 0
  is : ∃ G m pre, Held t K G m ∧ A = pre ++ cat G K ∧ u + ((G 0).getD []).length ≤ A.length + m ∧
    (pre = [] ∨ ∀ i, 1 ≤ i → i < K → (G i).isSome = true) ∧ ∀ i, 1 ≤ i → i + 1 < K → (G (i + 1)).isSome = true → (G i).isSome = true
section
variable {t t' : St} {K u : Nat} {A : List Itm}
theorem Hist.same (h : Hist t K A u) (e : t'.L = t.L) : Hist t' K A u := by
  obtain ⟨h1, G, m, pre, h2, h3⟩ := h
  exact ⟨h1, G, m, pre, h2.same e, h3⟩
theorem Hist.app (h : Hist t K A u) (hok : Ok t) (hK : 1 ≤ K) {x : Itm} (hx : chk x = 0) (hc : appC t lg (bytesOf x) = 0) : Hist (appT t lg (bytesOf x)) K (A ++ [x]) u := by
  obtain ⟨h1, G, m, pre, h2, h3, h4, h5, h6⟩ := h
  refine ⟨fun y hy => ?_, more G ((G 0).getD [] ++ [x]), m, pre, h2.app hok hK hc, ?_, ?_, ?_, fun i hi hi2 => ?_⟩
  · rcases List.mem_append.1 hy with hy | hy
    · exact h1 y hy
    · rw [List.mem_singleton.1 hy]; exact hx
  · obtain ⟨k, rfl⟩ : ∃ k, K = k + 1 := ⟨K - 1, by omega⟩
    obtain ⟨p, e1, e2⟩ := cat_more G ((G 0).getD [] ++ [x]) k
    rw [e1, h3, e2]; simp
  · have : (more G ((G 0).getD [] ++ [x]) 0).getD [] = (G 0).getD [] ++ [x] := by rw [more, if_pos rfl]; rfl
    rw [this, List.length_append, List.length_append, List.length_singleton]; omega
  · refine h5.imp id fun h i hi hi2 => ?_
    rw [more, if_neg (by omega)]; exact h i hi hi2
  · rw [more, if_neg (by omega), more, if_neg (by omega)]; exact h6 i hi hi2
theorem Hist.syn (h : Hist t K A u) (hok : Ok t) (hK : 1 ≤ K) (hc : synC t lg = 0) : Hist (synT t lg) K A A.length := by
  obtain ⟨h1, G, m, pre, h2, h3, h4, h5, h6⟩ := h
  exact ⟨h1, G, _, pre, (h2.syn hok hK hc).1, h3, Nat.le_refl _, h5, h6⟩
theorem Hist.gone (h : Hist t K A u) (hc : synC t lg = 7) : Hist (synT t lg) K A A.length := by
  have h0 := syn_gone hc
  have e := syn_no (t := t) (a := lg) (by rw [hc]; decide)
  obtain ⟨h1, G, m, pre, h2, h3, h4, h5, h6⟩ := h.same e
  have hg : G 0 = none := by
    have hn := h2.new
    rw [cel_none.2 (by rw [e]; exact h0)] at hn
    cases hg0 : G 0 with
    | none => rfl
    | some l => rw [hg0] at hn; cases hn
  exact ⟨h1, G, m, pre, h2, h3, by rw [hg]; simp, h5, h6⟩
theorem Hist.more (h : Hist t K A u) {v : Nat} (hv : v ≤ u) : Hist t K A v := by
  obtain ⟨h1, G, m, pre, h2, h3, h4, h5⟩ := h
  exact ⟨h1, G, m, pre, h2, h3, by omega, h5⟩
/-- behind a synced newest generation, a turn -/
theorem Hist.turn (h : Hist t K A u) (hok : Ok t) (hK : 1 ≤ K) (hK2 : K ≤ 16) (hc : synC t lg = 0) :
    trC (synT t lg) (ser lg K) = 0 ∧ Ok (trT (synT t lg) (ser lg K)) ∧ Hist (trT (synT t lg) (ser lg K)) K A A.length := by
  obtain ⟨h1, G, m, pre, h2, h3, h4, h5, h6⟩ := h
  obtain ⟨k, rfl⟩ : ∃ k, K = k + 1 := ⟨K - 1, by omega⟩
  obtain ⟨s1, s2⟩ := h2.syn hok hK hc
  obtain ⟨t1, t2, t3⟩ := s1.turn (hok.syn lg) (syn_bad hc).1 (by omega)
  refine ⟨t1, t2, h1, old G, 0, pre ++ (G k).getD [], t3, ?_, Nat.le_refl _, ?_, fun i hi hi2 => ?_⟩
  · rw [cat_old, h3, List.append_assoc]; rfl
  · have hall : ∀ j, j ≤ k → ((∀ i, 1 ≤ i → i < k + 1 → i ≤ j → (G i).isSome = true)) → ∀ i, 1 ≤ i → i < k + 1 → i ≤ j + 1 → (old G i).isSome = true := by
      intro j hj hG i hi hi2 hi3
      obtain ⟨l, rfl⟩ : ∃ l, i = l + 1 := ⟨i - 1, by omega⟩
      show (G l).isSome = true
      by_cases hl : l = 0
      · rw [hl]; exact s2
      · exact hG l (by omega) (by omega) (by omega)
    rcases h5 with rfl | h5
    · cases hgk : G k with
      | none => left; simp
      | some l =>
        right
        have hd : ∀ d, d < k → (G (k - d)).isSome = true := by
          intro d
          induction d with
          | zero => intro _; rw [Nat.sub_zero, hgk]; rfl
          | succ d ih =>
            intro hd
            have := ih (by omega)
            exact h6 (k - (d + 1)) (by omega) (by omega) (by rwa [show k - (d + 1) + 1 = k - d by omega])
        intro i hi hi2
        exact hall k (Nat.le_refl _) (fun i hi hi2 _ => by
          have := hd (k - i) (by omega)
          rwa [show k - (k - i) = i by omega] at this) i hi hi2 (by omega)
    · right
      exact fun i hi hi2 => hall k (Nat.le_refl _) (fun i hi hi2 _ => h5 i hi hi2) i hi hi2 (by omega)
  · intro ho
    obtain ⟨l, rfl⟩ : ∃ l, i = l + 1 := ⟨i - 1, by omega⟩
    show (G l).isSome = true
    change (G (l + 1)).isSome = true at ho
    by_cases hl : l = 0
    · rw [hl]; exact s2
    · exact h6 l (by omega) (by omega) ho
/-- an item is put, or not -/
theorem Hist.put (h : Hist t K A u) (hu : u ≤ A.length) (hok : Ok t) (hK : 1 ≤ K) (hK2 : K ≤ 16) {x : Itm} (hx : chk x = 0) (size : Int) :
    (putC t lg K size (bytesOf x) = 0 → Hist (putT t lg K size (bytesOf x)) K (A ++ [x]) u) ∧ (¬ putC t lg K size (bytesOf x) = 0 → Hist (putT t lg K size (bytesOf x)) K A u) := by
  have last : ∀ t', Ok t' → Hist t' K A u → (appC t' lg (bytesOf x) = 0 → Hist (appT t' lg (bytesOf x)) K (A ++ [x]) u) ∧ (¬ appC t' lg (bytesOf x) = 0 → Hist (appT t' lg (bytesOf x)) K A u) := fun t' ho hh =>
    ⟨fun hc => hh.app ho hK hx hc, fun hc => hh.same (app_no hc)⟩
  cases hf : fullB t lg size (bytesOf x) with
  | false => rw [(put_room hf).1, (put_room hf).2]; exact last t hok h
  | true =>
    by_cases hc : synC t lg = 0
    · obtain ⟨t1, t2, t3⟩ := h.turn hok hK hK2 hc
      rw [(put_new hf hc t1).1, (put_new hf hc t1).2]
      exact last _ t2 (t3.more hu)
    · rw [(put_syn hf hc).1, (put_syn hf hc).2]
      exact ⟨fun h0 => absurd h0 hc, fun _ => h.same (syn_no hc)⟩
end

/-! ### what is read -/
def load (L : List Bs) : List Itm := L.flatMap fun s => (Rec.scan s).1
theorem fitn_ge (l : List Itm) (j : Nat) : ∀ m, m ≤ l.length → (flat (l.take m)).length ≤ j → m ≤ Rec.fitn l j := by
  intro m
  induction m with
  | zero => intro _ _; omega
  | succ m ih =>
    intro hm hj
    rw [Rec.flat_len, Rec.tot_take (by omega)] at hj
    have := ih (by omega) (by rw [Rec.flat_len]; omega)
    have := (Rec.fitn_next l j m (by omega) this).1 (by omega)
    omega
theorem scan_part {l : List Itm} (h : ∀ x ∈ l, chk x = 0) {m j : Nat} (hm : m ≤ l.length) (hj : (flat (l.take m)).length ≤ j) : ∃ f, m ≤ f ∧ f ≤ l.length ∧ (Rec.scan ((flat l).take j)).1 = l.take f :=
  ⟨Rec.fitn l j, fitn_ge l j m hm hj, Rec.fitn_le l j, by rw [Rec.scan_torn h]⟩
theorem scan_all {l : List Itm} (h : ∀ x ∈ l, chk x = 0) : (Rec.scan (flat l)).1 = l := by
  obtain ⟨f, h1, h2, h3⟩ := scan_part h (Nat.le_refl l.length) (j := (flat l).length) (by rw [List.take_length]; exact Nat.le_refl _)
  rw [List.take_length] at h3
  rw [h3, show f = l.length by omega, List.take_length]
theorem load_gens {t : St} {G : Gs} (K : Nat) (h : ∀ i, i < K → ∃ s, has t (nm lg (i : Nat)) = s ∧ ((s = none ∧ G i = none) ∨ ∃ l s', s = some s' ∧ G i = some l ∧ (Rec.scan s').1 = l)) : load ((fnd t (ser lg K)).map Fl.bs) = cat G K := by
  rw [fnd_bs]
  induction K with
  | zero => rfl
  | succ K ih =>
    have ih' := ih fun i hi => h i (by omega)
    obtain ⟨s, h1, h2⟩ := h K (by omega)
    rw [ser]
    rcases h2 with ⟨rfl, h2⟩ | ⟨l, s', rfl, h2, h3⟩
    · rw [fm_none h1, ih', cat, h2]; rfl
    · rw [fm_some h1, load, List.flatMap_cons]
      show (Rec.scan s').1 ++ load _ = _
      rw [ih', h3, cat, h2]; rfl
section
variable {t : St} {K u : Nat} {A : List Itm}
/-- .. as it stands: the end of what was taken -/
theorem Hist.all (h : Hist t K A u) (_hK : 1 ≤ K) : ∃ pre, A = pre ++ load ((fnd t (ser lg K)).map Fl.bs) ∧ (pre = [] ∨ K ≤ (fnd t (ser lg K)).length + 1) := by
  obtain ⟨h1, G, m, pre, h2, h3, h4, h5, h6⟩ := h
  have hin : ∀ i l, i < K → G i = some l → ∀ x ∈ l, chk x = 0 := fun i l hi hl x hx => h1 x (by rw [h3]; exact List.mem_append_right _ (cat_mem hi hl x hx))
  have hh : ∀ i, i < K → has t (nm lg (i : Nat)) = (G i).map flat := fun i hi => by
    rw [cel_has]
    by_cases h0 : i = 0
    · subst h0; rw [nm_lg0, h2.new]; cases G 0 <;> rfl
    · rw [h2.older i hi h0]; cases G i <;> rfl
  have hl := load_gens (t := t) (G := G) K fun i hi => ⟨_, hh i hi, by
    cases hg : G i with
    | none => exact .inl ⟨rfl, rfl⟩
    | some l => exact .inr ⟨l, flat l, rfl, rfl, scan_all (hin i l hi hg)⟩⟩
  refine ⟨pre, by rw [hl]; exact h3, h5.imp id fun h5 => ?_⟩
  have hcnt : ∀ k, k ≤ K → k ≤ (fnd t (ser lg k)).length + 1 := by
    intro k
    induction k with
    | zero => intro _; omega
    | succ k ih =>
      intro hk
      have i1 := ih (by omega)
      by_cases h0 : k = 0
      · subst h0; omega
      · have e : fnd t (ser lg (k + 1)) = (match flk t.L (nm lg (k : Nat)) with | some x => [x] | none => []) ++ fnd t (ser lg k) := by
          unfold fnd
          rw [ser, List.filterMap_cons]
          cases flk t.L (nm lg (k : Nat)) <;> rfl
        have hs : (flk t.L (nm lg (k : Nat))).isSome = true := by
          have := hh k (by omega)
          rw [← has_is, this]
          simpa using h5 k (by omega) (by omega)
        obtain ⟨x, hx⟩ := Option.isSome_iff_exists.1 hs
        rw [e, hx, List.length_append, List.length_singleton]
        omega
  exact hcnt K (Nat.le_refl _)
/-- .. behind a crash: a piece, which ends not ahead of what was sure -/
theorem Hist.crash (h : Hist t K A u) (hok : Ok t) (hK : 1 ≤ K) (ks : List Int) : ∃ pre post, A = pre ++ load ((fnd (crs t ks) (ser lg K)).map Fl.bs) ++ post ∧ u + post.length ≤ A.length := by
  obtain ⟨h1, G, m, pre, h2, h3, h4, h5, h6⟩ := h
  have hin : ∀ i l, i < K → G i = some l → ∀ x ∈ l, chk x = 0 := fun i l hi hl x hx => h1 x (by rw [h3]; exact List.mem_append_right _ (cat_mem hi hl x hx))
  have hm := h2.mle
  obtain ⟨f, hf1, hf2, hf3⟩ : ∃ f, m ≤ f ∧ f ≤ ((G 0).getD []).length ∧ ((has (crs t ks) lg = none ∧ G 0 = none) ∨ ∃ l s', has (crs t ks) lg = some s' ∧ G 0 = some l ∧ (Rec.scan s').1 = l.take f) := by
    rw [cel_has]
    cases hg : G 0 with
    | none =>
      have hn := h2.new
      rw [hg] at hn hm
      rcases crs_cel hok ks lg with ⟨_, c2⟩ | ⟨l, s, j, c1, _⟩
      · exact ⟨m, Nat.le_refl _, hm, .inl ⟨by rw [c2]; rfl, rfl⟩⟩
      · rw [c1] at hn; cases hn
    | some l =>
      have hn := h2.new
      rw [hg] at hn hm
      rcases crs_cel hok ks lg with ⟨c1, _⟩ | ⟨l', s, j, c1, c2, c3, c4⟩
      · rw [c1] at hn; cases hn
      · rw [c1] at hn
        simp only [Option.map_some, Option.some.injEq, Prod.mk.injEq] at hn
        obtain ⟨rfl, rfl⟩ := hn
        obtain ⟨f, f1, f2, f3⟩ := scan_part (hin 0 l (by omega) hg) hm c2
        exact ⟨f, f1, f2, .inr ⟨l, _, by rw [c4]; rfl, rfl, f3⟩⟩
  let G' : Gs := fun i => if i = 0 then (G 0).map (List.take f) else G i
  have hl := load_gens (t := crs t ks) (G := G') K fun i hi => ⟨_, rfl, by
    by_cases h0 : i = 0
    · subst h0
      rw [nm_lg0]
      rcases hf3 with ⟨e1, e2⟩ | ⟨l, s', e1, e2, e3⟩
      · exact .inl ⟨e1, by show (if (0 : Nat) = 0 then _ else _) = _; rw [if_pos rfl, e2]; rfl⟩
      · exact .inr ⟨l.take f, s', e1, by show (if (0 : Nat) = 0 then _ else _) = _; rw [if_pos rfl, e2]; rfl, e3⟩
    · have hn := h2.older i hi h0
      have eG : G' i = G i := if_neg h0
      rw [cel_has, eG]
      rcases crs_cel hok ks (nm lg (i : Nat)) with ⟨c1, c2⟩ | ⟨l', s, j, c1, c2, c3, c4⟩
      · rw [c1] at hn
        refine .inl ⟨by rw [c2]; rfl, ?_⟩
        cases hg : G i with
        | none => rfl
        | some l => rw [hg] at hn; cases hn
      · rw [c1] at hn
        cases hg : G i with
        | none => rw [hg] at hn; cases hn
        | some l =>
          rw [hg] at hn
          simp only [Option.map_some, Option.some.injEq, Prod.mk.injEq] at hn
          obtain ⟨rfl, rfl⟩ := hn
          refine .inr ⟨l, (flat l).take j, by rw [c4]; rfl, rfl, ?_⟩
          rw [show j = (flat l).length by omega, List.take_length]
          exact scan_all (hin i l hi hg)⟩
  obtain ⟨k, rfl⟩ : ∃ k, K = k + 1 := ⟨K - 1, by omega⟩
  have hc : ∀ k, ∃ p, cat G' (k + 1) = p ++ ((G 0).getD []).take f ∧ cat G (k + 1) = p ++ (G 0).getD [] := by
    intro k
    induction k with
    | zero => refine ⟨[], ?_, by simp [cat]⟩; show ((if (0 : Nat) = 0 then (G 0).map (List.take f) else G 0).getD []) ++ [] = _; rw [if_pos rfl]; cases G 0 <;> simp
    | succ k ih =>
      obtain ⟨p, e1, e2⟩ := ih
      refine ⟨(G (k + 1)).getD [] ++ p, ?_, ?_⟩
      · show (G' (k + 1)).getD [] ++ cat G' (k + 1) = _
        rw [e1, show G' (k + 1) = G (k + 1) from if_neg (by omega), List.append_assoc]
      · show (G (k + 1)).getD [] ++ cat G (k + 1) = _
        rw [e2, List.append_assoc]
  obtain ⟨p, e1, e2⟩ := hc k
  refine ⟨pre, ((G 0).getD []).drop f, ?_, ?_⟩
  · rw [hl, e1, h3, e2, List.append_assoc, List.append_assoc, List.take_append_drop]
  · rw [List.length_drop]; omega
theorem hist_new (K : Nat) (most bad : Int) : Hist ⟨[], most, bad⟩ K [] 0 := by
  refine ⟨fun x hx => by simp at hx, fun _ => none, 0, [], ⟨fun i _ _ => rfl, rfl, Nat.zero_le _, fun _ _ => rfl⟩, ?_, Nat.le_refl _, .inl rfl, fun i _ _ h => by cases h⟩
  induction K with
  | zero => rfl
  | succ K ih => show _ = [] ++ cat _ K; simpa using ih
end
/-- there are no more files than names -/
theorem nodup_sub {l m : List Bs} (h : l.Nodup) (hs : ∀ x ∈ l, x ∈ m) : l.length ≤ m.length := by
  induction l generalizing m with
  | nil => exact Nat.zero_le _
  | cons a l ih =>
    obtain ⟨n1, n2⟩ := List.nodup_cons.1 h
    obtain ⟨m1, m2, rfl⟩ := List.append_of_mem (hs a (by simp))
    have := ih (m := m1 ++ m2) n2 fun x hx => by
      have := hs x (List.mem_cons_of_mem _ hx)
      rw [List.mem_append, List.mem_cons] at this
      rw [List.mem_append]
      rcases this with h | rfl | h
      · exact .inl h
      · exact absurd hx n1
      · exact .inr h
    simp only [List.length_append, List.length_cons] at this ⊢
    omega
theorem Hist.files {t : St} {K u : Nat} {A : List Itm} (h : Hist t K A u) (hok : Ok t) : t.L.length ≤ K := by
  obtain ⟨_, G, m, pre, h2, _⟩ := h
  have hn : (t.L.map Fl.nm).Nodup := by
    have := hok.rise
    unfold Rise at this
    rw [List.Nodup, List.pairwise_map]
    exact this.imp fun hlt e => by rw [e] at hlt; exact List.lt_irrefl _ hlt
  have := nodup_sub (m := ser lg K) hn fun a ha => by
    by_cases hm : a ∈ ser lg K
    · exact hm
    · obtain ⟨x, hx, e⟩ := List.mem_map.1 ha
      exact absurd e ((lk_none (nm := Fl.nm)).1 (h2.other a hm) x hx)
  rw [List.length_map, ser_len] at this
  exact this
end Go.Proofs.YtpaeemkdjgbejaaGreat.Jrn
end

section
namespace Go.Proofs.YtpaeemkdjgbejaaGreat.Own
open Go.RowKit

/-- all blocks that were there, but those of S, are as they were -/
structure Out (S : Nat → Prop) (w w' : World) : Prop where
  os : w'.os = w.os
  tape : w'.tape = w.tape
  output : w'.output = w.output
  size : w.heap.size ≤ w'.heap.size
  block : ∀ k, k < w.heap.size → ¬ S k → w'.heap[k]? = w.heap[k]?

theorem Out.refl (S : Nat → Prop) (w : World) : Out S w w := ⟨rfl, rfl, rfl, Nat.le_refl _, fun _ _ _ => rfl⟩
theorem Out.trans {S S' : Nat → Prop} {a b c : World} (h : Out S a b) (k : Out S' b c) (hs : ∀ i, i < a.heap.size → S' i → S i) : Out S a c :=
  ⟨k.os.trans h.os, k.tape.trans h.tape, k.output.trans h.output, Nat.le_trans h.size k.size, fun i hi hn =>
    (k.block i (Nat.lt_of_lt_of_le hi h.size) fun h' => hn (hs i hi h')).trans (h.block i hi hn)⟩
theorem Out.mono {S S' : Nat → Prop} {a b : World} (h : Out S a b) (hs : ∀ i, i < a.heap.size → S i → S' i) : Out S' a b := (Out.refl S' a).trans h hs
theorem Out.drew {S : Nat → Prop} {a w : World} (h : Out S a w) : Out S a w.drew := ⟨h.os, h.tape, h.output, h.size, h.block⟩
theorem Out.drewN {S : Nat → Prop} {a w : World} (h : Out S a w) (n : Nat) : Out S a (w.drewN n) := ⟨h.os, h.tape, h.output, h.size, h.block⟩
theorem Out.ofDrew {S : Nat → Prop} {a w : World} (h : Out S a.drew w) : Out S a w := ⟨h.os, h.tape, h.output, h.size, h.block⟩
theorem Out.ofDrewN {S : Nat → Prop} {a w : World} {n : Nat} (h : Out S (a.drewN n) w) : Out S a w := ⟨h.os, h.tape, h.output, h.size, h.block⟩
theorem Out.alloc {S : Nat → Prop} {a w : World} (h : Out S a w) (o : Obj) : Out S a (w.alloc o) :=
  h.trans (S' := fun _ => False) ⟨rfl, rfl, rfl, by simp, fun k hk _ => Below.heap_alloc _ _ _ hk⟩ (fun _ _ h => h.elim)
theorem Out.setCell {S : Nat → Prop} {a w : World} (h : Out S a w) {p : Addr} (hp : p.block < a.heap.size → S p.block) (u : Value) : Out S a (w.setCell p u) :=
  h.trans (S' := fun k => k = p.block) ⟨rfl, rfl, rfl, by simp [World.setCell], fun k _ hk => Below.heap_setCell _ _ _ _ hk⟩ (fun i hi e => by subst e; exact hp hi)
theorem Out.setRow {S : Nat → Prop} {a w : World} (h : Out S a w) {g : Nat} (hp : g < a.heap.size → S g) (cs : Array Value) : Out S a (w.setRow g cs) :=
  h.trans (S' := fun k => k = g) ⟨rfl, rfl, rfl, by simp [World.setRow], fun k _ hk => setRow_other w g k cs hk⟩ (fun i hi e => by subst e; exact hp hi)
theorem Out.ofBelow {S : Nat → Prop} {B : Nat} {a b : World} (h : Below B a b) (hs : ∀ i, i < a.heap.size → ¬ S i → i < B) : Out S a b :=
  ⟨h.os, h.tape, h.output, h.size, fun k hk hn => h.block k (hs k hk hn)⟩
theorem Out.ofNew {S : Nat → Prop} {a b : World} (h : Below a.heap.size a b) : Out S a b := Out.ofBelow h fun _ h _ => h
theorem Out.below {S : Nat → Prop} {B : Nat} {a b : World} (h : Out S a b) (hB : B ≤ a.heap.size) (hs : ∀ i, S i → B ≤ i) : Below B a b :=
  ⟨h.os, h.tape, h.output, h.size, fun k hk => h.block k (by omega) fun h' => by have := hs k h'; omega⟩
theorem Out.cell {S : Nat → Prop} {a b : World} (h : Out S a b) {p : Addr} (hp : p.block < a.heap.size) (hn : ¬ S p.block) : b.cell? p = a.cell? p := World.cell?_of_block (h.block _ hp hn)
theorem Out.frozen {S : Nat → Prop} {a b : World} (h : Out S a b) {p : Addr} (hp : p.block < a.heap.size) (hn : ¬ S p.block) : b.frozen? p = a.frozen? p := World.frozen?_of_block (h.block _ hp hn)
theorem Out.at_ {S : Nat → Prop} {a b : World} (h : Out S a b) {k : Nat} {o : Obj} (hk : a.heap[k]? = some o) (hn : ¬ S k) : b.heap[k]? = some o :=
  (h.block k (Array.getElem?_eq_some_iff.1 hk).1 hn).trans hk

section
variable {w : World} {b : Nat} {c : Array Value} {t : TypeId} {fr : Nat × Nat}
theorem at_lt {o : Obj} (h : w.heap[b]? = some o) : b < w.heap.size := (Array.getElem?_eq_some_iff.1 h).1
theorem at_cell (h : w.heap[b]? = some (.cells c t fr)) (o : Nat) : w.cell? ⟨b, o, none⟩ = c[o]? := by simp [World.cell?, h]
theorem at_frozen (h : w.heap[b]? = some (.cells c t (0, 0))) (o : Nat) : w.frozen? ⟨b, o, none⟩ = false := by simp [World.frozen?, h]
theorem at_set (h : w.heap[b]? = some (.cells c t fr)) (i : Nat) (v : Value) : (w.setCell ⟨b, i, none⟩ v).heap[b]? = some (.cells (c.setIfInBounds i v) t fr) := by
  have hlt := at_lt h
  have h' : w.heap[b] = .cells c t fr := by simpa [Array.getElem?_eq_getElem hlt] using h
  show (w.heap.modify b _)[b]? = _
  rw [Array.getElem?_eq_getElem (by simpa using hlt), Array.getElem_modify_self, h']
  rfl
theorem at_set_other (w : World) {k : Nat} (hk : k ≠ b) (i : Nat) (v : Value) : (w.setCell ⟨b, i, none⟩ v).heap[k]? = w.heap[k]? := Below.heap_setCell _ _ _ _ hk
theorem at_new (w : World) (o : Obj) : (w.alloc o).heap[w.heap.size]? = some o := heap_alloc_new w o
theorem at_newk (w : World) (o : Obj) {k : Nat} (h : k = w.heap.size) : (w.alloc o).heap[k]? = some o := by subst h; exact heap_alloc_new w o
theorem at_old (w : World) (o : Obj) {k : Nat} {x : Obj} (h : w.heap[k]? = some x) : (w.alloc o).heap[k]? = some x := (Below.heap_alloc w o k (at_lt h)).trans h
end

/-- bytes as cells -/
def bv (l : List UInt8) : List Value := l.map fun c => .int .u8 c.toNat
theorem bv_len (l : List UInt8) : (bv l).length = l.length := by simp [bv]
theorem bv_get (l : List UInt8) (i : Nat) : (bv l)[i]? = l[i]?.map fun c => Value.int .u8 (c.toNat : Int) := by simp [bv]
theorem bv_one (l : List UInt8) : ∀ v ∈ bv l, v.oneCell' = true := by
  intro v hv; simp only [bv, List.mem_map] at hv; obtain ⟨c, -, rfl⟩ := hv; rfl
theorem bv_app (l m : List UInt8) : bv (l ++ m) = bv l ++ bv m := by simp [bv]
theorem bv_take (l : List UInt8) (n : Nat) : (bv l).take n = bv (l.take n) := by simp [bv]
theorem bv_drop (l : List UInt8) (n : Nat) : (bv l).drop n = bv (l.drop n) := by simp [bv]
theorem bv_splice (l m : List UInt8) (n : Nat) : splice (bv l) n (bv m) = bv (splice l n m) := by simp [splice, bv]

section
variable {P : Program}
theorem run_copy_string (w : World) (dT sT ty elem : TypeId) (g o dLen dCap : Nat) (s : ByteArray) (cur : Array Value) (t : TypeId) (k : Nat)
    (hu : P.underlying dT = some (.slice elem)) (hs : (P.info? elem).map (·.size) = some 1)
    (hg : w.heap[g]? = some (.cells cur t (0, 0))) (hk : k = Nat.min s.size dLen) (hfit : o + k ≤ cur.size) :
    (Builtin.copy_ #[dT, sT] ty #[.slice (some ⟨g, o, none⟩) dLen dCap, .string s]).run P w =
      .ok (goInt k) (w.setRow g (cur.toList.take o ++ bv (s.data.toList.take k) ++ cur.toList.drop (o + k)).toArray) := by
  have hl : (bv (s.data.toList.take k)).length = k := by
    rw [bv_len, List.length_take]; show min k s.data.size = k; have : s.data.size = s.size := rfl
    rw [hk]; have := Nat.min_le_left s.size dLen; change Nat.min s.size dLen ≤ _ at this; omega
  have hst := run_storeCells_at P g o t (bv (s.data.toList.take k)) 0 cur w hg (by rw [hl]; simpa using hfit) (bv_one _)
  rw [hl] at hst
  cases hq : P.info? elem with
  | none => simp [hq] at hs
  | some i =>
    simp [Builtin.copy_, run_underlying hu, Builtin.lenOf, Builtin.firstCells, sizeOf, typeInfo, hq]
    rw [← hk, show List.take k (List.map (fun b : UInt8 => Value.int .u8 (b.toNat : Int)) s.data.toList) = bv (s.data.toList.take k) by simp [bv], hst]
    simp

theorem run_copy_string_none (w : World) (dT sT ty elem : TypeId) (d : Option Addr) (dLen dCap : Nat) (s : ByteArray)
    (hu : P.underlying dT = some (.slice elem)) (hs : (P.info? elem).map (·.size) = some 1) (hn : Nat.min s.size dLen = 0) :
    (Builtin.copy_ #[dT, sT] ty #[.slice d dLen dCap, .string s]).run P w = .ok (goInt 0) w := by
  cases hq : P.info? elem with
  | none => simp [hq] at hs
  | some i =>
    have hn' : min s.size dLen = 0 := hn
    cases d <;> simp [Builtin.copy_, run_underlying hu, Builtin.lenOf, Builtin.firstCells, sizeOf, typeInfo, hq, hn', storeCells]

variable {ops : Array Oper} {o : Oper} {a : Act} {w : World} {K : Act → World → Prop} {Q : Exit → Act → World → Prop} {E : Prop}

/-- copy(dst, src) of two slices of bytes, as a step of a region that draws its order -/
theorem step_copy_out (hgd : o.guard = none) (d s : Operand) (dT sT : TypeId)
    (ho : o.op = .call { callee := .builtin .copy, args := #[d, s], argTypes := #[dT, sT] }) (elem : TypeId) (hu : P.underlying dT = some (.slice elem)) (hsz : (P.info? elem).map (·.size) = some 1)
    (dp sp : Option Addr) (dLen dCap sLen sCap : Nat) (hd : a.eval d = .slice dp dLen dCap) (hs : a.eval s = .slice sp sLen sCap)
    (g off : Nat) (cur : List Value) (t : TypeId) (hg : w.heap[g]? = some (.cells cur.toArray t (0, 0))) (cs : List Value) (n : Nat) (hn : cs.length = n) (hm : n = min sLen dLen)
    (hpos : 0 < n → dp = some ⟨g, off, none⟩ ∧ ∃ ad, sp = some ad ∧ ∀ j v, cs[j]? = some v → w.cell? (ad.add j) = some v)
    (hfit : off + n ≤ cur.length) (h1 : ∀ v ∈ cs, v.oneCell' = true)
    (h : ∀ w', Hid (w'.heap[g]? = some (.cells (splice cur off cs).toArray t (0, 0))) → Out (fun k => k = g) w w' → K (a.put o.dst (.int .i64 n)) w') :
    if Region.wanted o (yielded ops a.tmps) = true then Oper.wp P o a w K Q else E := by
  have hw : Region.wanted o (yielded ops a.tmps) = true := by simp [Region.wanted, hgd]
  rw [if_pos hw]
  subst hn
  by_cases h0 : cs.length = 0
  · obtain rfl : cs = [] := List.eq_nil_of_length_eq_zero h0
    have hrun := run_copy_none (P := P) w dT sT o.type elem dp sp dLen dCap sLen sCap hu hsz (show Nat.min sLen dLen = 0 by simpa using hm.symm)
    unfold Oper.wp
    simp [execOp, ho, resolve, invoke, builtin, hd, hs, hrun, Result.andThen]
    exact h w (show _ = _ by simpa [splice] using hg) (Out.refl _ _)
  · obtain ⟨rfl, ad, rfl, hsrc⟩ := hpos (by omega)
    have hrun := run_copy_row (P := P) w dT sT o.type elem g off dLen dCap ad sLen sCap cur.toArray t cs hu hsz hg (show cs.length = Nat.min sLen dLen from hm) hsrc (by simpa using hfit) h1
    unfold Oper.wp
    simp [execOp, ho, resolve, invoke, builtin, hd, hs, hrun, Result.andThen]
    exact h _ (show _ = _ by simpa [splice] using setRow_heap w g _ _ t _ hg) ((Out.refl (fun k => k = g) _).setRow (fun _ => rfl) _)

/-- copy(dst, src), src a text -/
theorem step_copy_text (hgd : o.guard = none) (d s : Operand) (dT sT : TypeId)
    (ho : o.op = .call { callee := .builtin .copy, args := #[d, s], argTypes := #[dT, sT] }) (elem : TypeId) (hu : P.underlying dT = some (.slice elem)) (hsz : (P.info? elem).map (·.size) = some 1)
    (dp : Option Addr) (dLen dCap : Nat) (bs : ByteArray) (hd : a.eval d = .slice dp dLen dCap) (hs : a.eval s = .string bs)
    (g off : Nat) (cur : List Value) (t : TypeId) (hg : w.heap[g]? = some (.cells cur.toArray t (0, 0))) (n : Nat) (hm : n = min bs.size dLen)
    (hpos : 0 < n → dp = some ⟨g, off, none⟩) (hfit : off + n ≤ cur.length)
    (h : ∀ w', Hid (w'.heap[g]? = some (.cells (splice cur off (bv (bs.data.toList.take n))).toArray t (0, 0))) → Out (fun k => k = g) w w' → K (a.put o.dst (.int .i64 n)) w') :
    if Region.wanted o (yielded ops a.tmps) = true then Oper.wp P o a w K Q else E := by
  have hw : Region.wanted o (yielded ops a.tmps) = true := by simp [Region.wanted, hgd]
  rw [if_pos hw]
  have hl : (bv (bs.data.toList.take n)).length = n := by
    rw [bv_len, List.length_take]; show min n bs.data.size = n; have : bs.data.size = bs.size := rfl
    omega
  by_cases h0 : n = 0
  · subst h0
    have hrun := run_copy_string_none (P := P) w dT sT o.type elem dp dLen dCap bs hu hsz hm.symm
    unfold Oper.wp
    simp [execOp, ho, resolve, invoke, builtin, hd, hs, hrun, Result.andThen]
    exact h w (show _ = _ by simpa [splice, bv] using hg) (Out.refl _ _)
  · obtain rfl := hpos (by omega)
    have hrun := run_copy_string (P := P) w dT sT o.type elem g off dLen dCap bs cur.toArray t n hu hsz hg hm (by simpa using hfit)
    unfold Oper.wp
    simp [execOp, ho, resolve, invoke, builtin, hd, hs, hrun, Result.andThen]
    refine h _ (show _ = _ from ?_) ((Out.refl (fun k => k = g) _).setRow (fun _ => rfl) _)
    have := setRow_heap w g cur.toArray (cur.take off ++ bv (bs.data.toList.take n) ++ cur.drop (off + n)).toArray t _ hg
    rw [splice, hl]
    simpa using this
end
end Go.Proofs.YtpaeemkdjgbejaaGreat.Own
end

section
namespace Go.Proofs.YtpaeemkdjgbejaaGreat.KM
open Go.Maps (Keyed)
open Go.MapKept Go.ChangeMaps Go.Proofs.YtpaeemkdjgbejaaGreat.Own

section
variable {α : Type} {P : Program} {k t e : TypeId} {kv : α → Value} {w : World} {b n : Nat} {f : α → Option Value}

structure KMap (P : Program) (k : TypeId) (kv : α → Value) (w : World) (b : Nat) (f : α → Option Value) (n : Nat) : Prop where
  is : ∃ es clock, w.heap[b]? = some (.map es clock) ∧ es.size = n ∧ Stamped es clock ∧ (∀ x ∈ es.toList, ∃ l, keyOf P k x.key = some l) ∧
    (∀ x ∈ es.toList, ∃ a, x.key = kv a ∧ f a = some x.val) ∧ ∀ a v, f a = some v → ∃ x ∈ es.toList, x.key = kv a ∧ x.val = v

theorem KMap.made (w : World) : KMap P k kv (w.alloc (.map #[] 0)) w.heap.size (fun _ => none) 0 :=
  ⟨#[], 0, at_new w _, rfl, stamped_empty 0, by simp, by simp, fun a v h => nomatch h⟩
theorem KMap.kept {w' : World} (h : KMap P k kv w b f n) (hb : w'.heap[b]? = w.heap[b]?) : KMap P k kv w' b f n := by
  obtain ⟨es, clock, h1, r⟩ := h.is
  exact ⟨es, clock, hb.trans h1, r⟩
theorem KMap.lt (h : KMap P k kv w b f n) : b < w.heap.size := by
  obtain ⟨es, clock, h1, r⟩ := h.is
  exact at_lt h1
theorem KMap.cong {f' : α → Option Value} {n' : Nat} (h : KMap P k kv w b f n) (hf : ∀ a, f a = f' a) (hn : n = n') : KMap P k kv w b f' n' := by
  have : f = f' := funext hf
  subst this hn; exact h

theorem apart {es : Array MapEntry} {clock : Nat} (h : Stamped es clock) {i j : Nat} {x y : MapEntry} (hi : es.toList[i]? = some x) (hj : es.toList[j]? = some y) (hk : x.key = y.key) : i = j := by
  have hn := h.2.2
  have li := (List.getElem?_eq_some_iff.1 hi).1
  have lj := (List.getElem?_eq_some_iff.1 hj).1
  have e1 : (es.toList.map (·.key))[i]? = some x.key := by simp only [List.getElem?_map, hi, Option.map_some]
  have e2 : (es.toList.map (·.key))[j]? = some x.key := by simp only [List.getElem?_map, hj, Option.map_some, hk]
  exact (List.getElem?_inj (by simpa using li) hn).1 (e1.trans e2.symm)

/-- what is at the key -/
theorem KMap.found (h : KMap P k kv w b f n) (K : Keyed P k) {a : α} {l : Lit} (hkey : keyOf P k (kv a) = some l) (hinj : ∀ c, kv c = kv a → c = a) :
    ∃ es clock, w.heap[b]? = some (.map es clock) ∧ ((f a = none ∧ (Instr.findKey k (kv a) es.toList).run P w = .ok none w ∧ ∀ x ∈ es.toList, x.key ≠ kv a) ∨
      ∃ j x, f a = some x.val ∧ (Instr.findKey k (kv a) es.toList).run P w = .ok (some (j, x.val)) w ∧ es.toList[j]? = some x ∧ x.key = kv a) := by
  obtain ⟨es, clock, hb, hn, hst, hks, h1, h2⟩ := h.is
  refine ⟨es, clock, hb, ?_⟩
  rcases K.find w hkey es.toList hks with ⟨r1, r2⟩ | ⟨j, x, r1, r2, r3⟩
  · refine .inl ⟨?_, r1, r2⟩
    cases hf : f a with
    | none => rfl
    | some v =>
      obtain ⟨x, hx, hk, _⟩ := h2 a v hf
      exact absurd hk (r2 x hx)
  · refine .inr ⟨j, x, ?_, r1, r2, r3⟩
    obtain ⟨c, hc, hv⟩ := h1 x (List.mem_of_getElem? r2)
    rw [hinj c (hc.symm.trans r3)] at hv
    exact hv

theorem KMap.look (c : Bool) (h : KMap P k kv w b f n) (K : Keyed P k) (ht : P.underlying t = some (.map k e)) {z : Value} (hz : (zeroValue e).run P w = .ok z w)
    {a : α} {l : Lit} (hkey : keyOf P k (kv a) = some l) (hinj : ∀ c, kv c = kv a → c = a) :
    (Instr.lookup t (.map (some b)) (kv a) c).run P w = .ok (if c then .tuple #[(f a).getD z, .bool (f a).isSome] else (f a).getD z) w := by
  obtain ⟨es, clock, hb, ⟨h0, h1, _⟩ | ⟨j, x, h0, h1, _⟩⟩ := h.found K hkey hinj
  · simp [Instr.lookup, run_underlying ht, MapKept.run_getObj_map hb, K.check w _ hkey, h1, hz, h0, Result.andThen]
  · simp [Instr.lookup, run_underlying ht, MapKept.run_getObj_map hb, K.check w _ hkey, h1, h0, Result.andThen]

theorem KMap.len (h : KMap P k kv w b f n) (ht : P.underlying t = some (.map k e)) (ty : TypeId) : (Builtin.len_ #[t] ty #[.map (some b)]).run P w = .ok (.int .i64 n) w := by
  obtain ⟨es, clock, hb, hn, _⟩ := h.is
  simp [Builtin.len_, run_underlying ht, MapKept.run_getObj_map hb, goInt, hn, Result.andThen]

/-- only block b has turned -/
theorem out_block (w : World) (b : Nat) (o : Obj) : Out (fun i => i = b) w (setBlock w b o) :=
  ⟨rfl, rfl, rfl, by simp [setBlock], fun i _ hi => by simp [setBlock, Ne.symm hi]⟩

section
variable [DecidableEq α]
def put (f : α → Option Value) (a : α) (v : Value) : α → Option Value := fun c => if c = a then some v else f c
def del (f : α → Option Value) (a : α) : α → Option Value := fun c => if c = a then none else f c

theorem KMap.store (h : KMap P k kv w b f n) (K : Keyed P k) (ht : P.underlying t = some (.map k e)) {a : α} {l : Lit} (hkey : keyOf P k (kv a) = some l) (hinj : ∀ c, kv c = kv a → c = a) (v : Value) :
    ∃ w', (Instr.mapUpdate t (.map (some b)) (kv a) v).run P w = .ok () w' ∧ KMap P k kv w' b (put f a v) (if (f a).isSome then n else n + 1) ∧ Out (fun i => i = b) w w' := by
  have hfd := h.found K hkey hinj
  obtain ⟨es, clock, hb, hn, hst, hks, h1, h2⟩ := h.is
  obtain ⟨es', clock', hb', hcase⟩ := hfd
  cases hb.symm.trans hb'
  rcases hcase with ⟨h0, r1, r2⟩ | ⟨j, x0, h0, r1, r2, r3⟩
  · refine ⟨setBlock w b (.map (es.push ⟨kv a, v, clock⟩) (clock + 1)), ?_, ⟨_, _, heap_setBlock_same hb _, ?_, stamped_push hst r2, ?_, ?_, ?_⟩, out_block w b _⟩
    · simp [Instr.mapUpdate, run_underlying ht, MapKept.run_getObj_map hb, K.check w false hkey, r1, MapKept.run_setObj_map _ hb, Result.andThen, setBlock]
    · simp [h0, hn]
    · intro x hx
      simp only [Array.toList_push, List.mem_append, List.mem_singleton] at hx
      rcases hx with hx | rfl
      · exact hks x hx
      · exact ⟨l, hkey⟩
    · intro x hx
      simp only [Array.toList_push, List.mem_append, List.mem_singleton] at hx
      rcases hx with hx | rfl
      · obtain ⟨c, hc, hv⟩ := h1 x hx
        have hne : c ≠ a := fun e => r2 x hx (by rw [hc, e])
        exact ⟨c, hc, by simp [put, hne, hv]⟩
      · exact ⟨a, rfl, by simp [put]⟩
    · intro c u hu
      simp only [Array.toList_push, List.mem_append, List.mem_singleton]
      by_cases hc : c = a
      · subst hc
        simp [put] at hu
        exact ⟨_, .inr rfl, rfl, hu⟩
      · simp [put, hc] at hu
        obtain ⟨x, hx, r⟩ := h2 c u hu
        exact ⟨x, .inl hx, r⟩
  · have hj : es[j]? = some x0 := by simpa using r2
    have hjl : j < es.toList.length := (List.getElem?_eq_some_iff.1 r2).1
    have hkeyf : ∀ e', es[j]? = some e' → ({ e' with key := kv a, val := v } : MapEntry).key = e'.key := fun e' he' => by rw [hj] at he'; cases he'; exact r3.symm
    have hlist : (es.modify j (fun e' => { e' with key := kv a, val := v })).toList = es.toList.set j { x0 with key := kv a, val := v } := by rw [Array.toList_modify, modify_eq_set _ _ _ _ r2]
    have who : ∀ x ∈ es.toList.set j { x0 with key := kv a, val := v }, x = { x0 with key := kv a, val := v } ∨ (x ∈ es.toList ∧ x.key ≠ kv a) := by
      intro x hx
      obtain ⟨i, hi, ex⟩ := List.getElem_of_mem hx
      rw [List.getElem_set] at ex
      split at ex
      · exact Or.inl ex.symm
      · rename_i hne
        have hi' : i < es.toList.length := by simpa using hi
        refine Or.inr ⟨ex ▸ List.getElem_mem hi', fun hk => hne ?_⟩
        exact (apart hst (i := i) (j := j) (by rw [List.getElem?_eq_getElem hi', ex]) r2 (hk.trans r3.symm)).symm
    refine ⟨setBlock w b (.map (es.modify j (fun e' => { e' with key := kv a, val := v })) clock), ?_, ⟨_, _, heap_setBlock_same hb _, ?_, stamped_modify hst _ _ (fun _ _ => rfl) (fun e' _ he' => hkeyf e' he'), ?_, ?_, ?_⟩, out_block w b _⟩
    · simp [Instr.mapUpdate, run_underlying ht, MapKept.run_getObj_map hb, K.check w false hkey, r1, hj, r3, K.stays w hkey, MapKept.run_setObj_map _ hb, Result.andThen, setBlock]
    · simp [h0, hn]
    · intro x hx
      rw [hlist] at hx
      rcases who x hx with rfl | ⟨hx', _⟩
      · exact ⟨l, hkey⟩
      · exact hks x hx'
    · intro x hx
      rw [hlist] at hx
      rcases who x hx with rfl | ⟨hx', hne⟩
      · exact ⟨a, rfl, by simp [put]⟩
      · obtain ⟨c, hc, hv⟩ := h1 x hx'
        have hca : c ≠ a := fun e => hne (by rw [hc, e])
        exact ⟨c, hc, by simp [put, hca, hv]⟩
    · intro c u hu
      rw [hlist]
      by_cases hc : c = a
      · subst hc
        simp [put] at hu
        exact ⟨{ x0 with key := kv c, val := v }, List.mem_iff_getElem.2 ⟨j, by simpa using hjl, by simp⟩, rfl, hu⟩
      · simp [put, hc] at hu
        obtain ⟨x, hx, hk, hv⟩ := h2 c u hu
        obtain ⟨i, hi, ex⟩ := List.getElem_of_mem hx
        have hij : j ≠ i := fun e => by
          subst e
          rw [List.getElem?_eq_getElem hi] at r2
          cases r2
          rw [ex, hk] at r3
          exact hc (hinj c r3)
        exact ⟨x, List.mem_iff_getElem.2 ⟨i, by simpa using hi, by rw [List.getElem_set_ne hij]; exact ex⟩, hk, hv⟩

theorem KMap.drop (h : KMap P k kv w b f n) (K : Keyed P k) (ht : P.underlying t = some (.map k e)) {a : α} {l : Lit} (hkey : keyOf P k (kv a) = some l) (hinj : ∀ c, kv c = kv a → c = a) (ty : TypeId) :
    ∃ w', (Builtin.delete_ #[t, k] ty #[.map (some b), kv a]).run P w = .ok (.tuple #[]) w' ∧ KMap P k kv w' b (del f a) (if (f a).isSome then n - 1 else n) ∧ Out (fun i => i = b) w w' := by
  have hfd := h.found K hkey hinj
  obtain ⟨es, clock, hb, hn, hst, hks, h1, h2⟩ := h.is
  obtain ⟨es', clock', hb', hcase⟩ := hfd
  cases hb.symm.trans hb'
  rcases hcase with ⟨h0, r1, r2⟩ | ⟨j, x0, h0, r1, r2, r3⟩
  · refine ⟨setBlock w b (.map es clock), ?_, ⟨_, _, heap_setBlock_same hb _, ?_, hst, hks, ?_, ?_⟩, out_block w b _⟩
    · simp [Builtin.delete_, run_underlying ht, MapKept.run_getObj_map hb, K.check w _ hkey, r1, MapKept.run_setObj_map _ hb, Result.andThen, setBlock]
    · simp [h0, hn]
    · intro x hx
      obtain ⟨c, hc, hv⟩ := h1 x hx
      have hne : c ≠ a := fun e => r2 x hx (by rw [hc, e])
      exact ⟨c, hc, by simp [del, hne, hv]⟩
    · intro c u hu
      by_cases hc : c = a
      · simp [del, hc] at hu
      · simp [del, hc] at hu
        exact h2 c u hu
  · have hjl : j < es.toList.length := (List.getElem?_eq_some_iff.1 r2).1
    have hjs : j < es.size := by simpa using hjl
    have hsub : (es.eraseIdxIfInBounds j).toList = es.toList.eraseIdx j := by
      unfold Array.eraseIdxIfInBounds
      rw [dif_pos hjs]
      simp
    refine ⟨setBlock w b (.map (es.eraseIdxIfInBounds j) clock), ?_, ⟨_, _, heap_setBlock_same hb _, ?_, stamped_erase hst j, ?_, ?_, ?_⟩, out_block w b _⟩
    · simp [Builtin.delete_, run_underlying ht, MapKept.run_getObj_map hb, K.check w _ hkey, r1, MapKept.run_setObj_map _ hb, Result.andThen, setBlock]
    · have hsz := congrArg List.length hsub
      rw [List.length_eraseIdx_of_lt hjl, Array.length_toList, Array.length_toList] at hsz
      simp only [h0, Option.isSome_some, if_true]
      omega
    · intro x hx
      rw [hsub] at hx
      exact hks x ((List.eraseIdx_sublist _ _).subset hx)
    · intro x hx
      rw [hsub] at hx
      obtain ⟨i, hne, hi⟩ := List.mem_eraseIdx_iff_getElem?.1 hx
      obtain ⟨c, hc, hv⟩ := h1 x (List.mem_of_getElem? hi)
      have hca : c ≠ a := fun e => hne (apart hst hi r2 (by rw [hc, e, r3]))
      exact ⟨c, hc, by simp [del, hca, hv]⟩
    · intro c u hu
      by_cases hc : c = a
      · simp [del, hc] at hu
      · simp [del, hc] at hu
        obtain ⟨x, hx, hk, hv⟩ := h2 c u hu
        obtain ⟨i, hi, ex⟩ := List.getElem_of_mem hx
        refine ⟨x, ?_, hk, hv⟩
        rw [hsub]
        refine List.mem_eraseIdx_iff_getElem?.2 ⟨i, fun e => ?_, by rw [List.getElem?_eq_getElem hi, ex]⟩
        subst e
        rw [List.getElem?_eq_getElem hi] at r2
        cases r2
        rw [ex, hk] at r3
        exact hc (hinj c r3)

/-! ### at the operation, for the walk -/
section
variable {ops : Array Oper} {rest : List Oper} {o : Oper} {act : Act} {Q : Exit → Act → World → Prop}

/-- 'm[a] = v' -/
theorem wp_store (hg : o.guard = none) (m x v : Operand) (t : TypeId) (hop : o.op = Op.mapUpdate t m x v) (k e : TypeId) (K : Keyed P k) (ht : P.underlying t = some (.map k e)) (b n : Nat) (f : α → Option Value)
    (hm : act.eval m = .map (some b)) (h : KMap P k kv w b f n) (a : α) (hx : act.eval x = kv a) (val : Value) (hv : act.eval v = val) {l : Lit} (hkey : keyOf P k (kv a) = some l) (hinj : ∀ c, kv c = kv a → c = a)
    (hK : ∀ w', KMap P k kv w' b (put f a val) (if (f a).isSome then n else n + 1) → Out (fun i => i = b) w w' → wpList P ops Q rest (act.put o.dst undef) w') : wpList P ops Q (o :: rest) act w := by
  refine wpList_plain hg fun K' hK' => ?_
  obtain ⟨w', hrun, r1, r2⟩ := h.store K ht hkey hinj val
  unfold Oper.wp
  simp [execOp, hop, hm, hx, hv, hrun, Result.andThen]
  exact hK' _ _ (hK w' r1 r2)

/-- 'delete(m, a)' -/
theorem wp_drop (hg : o.guard = none) (m x : Operand) (t k : TypeId) (hop : o.op = Op.call { callee := Callee.builtin Builtin.delete, args := #[m, x], argTypes := #[t, k] }) (e : TypeId) (K : Keyed P k) (ht : P.underlying t = some (.map k e)) (b n : Nat) (f : α → Option Value)
    (hm : act.eval m = .map (some b)) (h : KMap P k kv w b f n) (a : α) (hx : act.eval x = kv a) {l : Lit} (hkey : keyOf P k (kv a) = some l) (hinj : ∀ c, kv c = kv a → c = a)
    (hK : ∀ w', KMap P k kv w' b (del f a) (if (f a).isSome then n - 1 else n) → Out (fun i => i = b) w w' → wpList P ops Q rest (act.put o.dst (.tuple #[])) w') : wpList P ops Q (o :: rest) act w := by
  refine wpList_plain hg fun K' hK' => ?_
  obtain ⟨w', hrun, r1, r2⟩ := h.drop K ht hkey hinj o.type
  unfold Oper.wp
  simp [execOp, hop, resolve, invoke, builtin, hm, hx, hrun, Result.andThen]
  exact hK' _ _ (hK w' r1 r2)

omit [DecidableEq α] in
/-- 'len(m)' -/
theorem wp_len (hg : o.guard = none) (m : Operand) (t : TypeId) (hop : o.op = Op.call { callee := Callee.builtin Builtin.len, args := #[m], argTypes := #[t] }) (k e : TypeId) (ht : P.underlying t = some (.map k e)) (b n : Nat) (f : α → Option Value)
    (hm : act.eval m = .map (some b)) (h : KMap P k kv w b f n) (hK : wpList P ops Q rest (act.put o.dst (.int .i64 n)) w) : wpList P ops Q (o :: rest) act w := by
  refine wpList_plain hg fun K' hK' => ?_
  unfold Oper.wp
  simp [execOp, hop, resolve, invoke, builtin, hm, h.len ht o.type, Result.andThen]
  exact hK' _ _ hK

omit [DecidableEq α] in
/-- 'v, ok := m[a]', 'm[a]' -/
theorem wp_look (hg : o.guard = none) (m x : Operand) (t : TypeId) (c : Bool) (hop : o.op = Op.lookup t m x c) (k e : TypeId) (K : Keyed P k) (ht : P.underlying t = some (.map k e)) (z : Value) (hz : ∀ w, (zeroValue e).run P w = .ok z w) (b n : Nat) (f : α → Option Value)
    (hm : act.eval m = .map (some b)) (h : KMap P k kv w b f n) (a : α) (hx : act.eval x = kv a) {l : Lit} (hkey : keyOf P k (kv a) = some l) (hinj : ∀ c, kv c = kv a → c = a)
    (hK : wpList P ops Q rest (act.put o.dst (if c then .tuple #[(f a).getD z, .bool (f a).isSome] else (f a).getD z)) w) : wpList P ops Q (o :: rest) act w := by
  refine wpList_plain hg fun K' hK' => ?_
  unfold Oper.wp
  simp [execOp, hop, hm, hx, h.look c K ht (hz w) hkey hinj, Result.andThen]
  exact hK' _ _ hK
end

/-- numbers as keys -/
def ik (a : Int) : Value := .int .i64 a
theorem ik_inj (a : Int) : ∀ c, ik c = ik a → c = a := by intro c h; cases h; rfl
theorem ik_key {k : TypeId} (hk : P.underlying k = some (.int .i64)) {a : Int} (h : -9223372036854775808 ≤ a ∧ a ≤ 9223372036854775807) : keyOf P k (ik a) = some (.int .i64 a) :=
  Maps.keyOf_int_mk hk (by simp [Lit.wf, IntKind.min, IntKind.max, IntKind.signed, IntKind.bits]; omega)
end
end
end Go.Proofs.YtpaeemkdjgbejaaGreat.KM
end

section
namespace Go.Proofs.YtpaeemkdjgbejaaGreat.Own
open Go.RowKit

theorem own_below {w w' : World} {B e size n : Nat} {v : Value} {xs : List Value} (h : w.ownsRow B e size v n xs) (hb : Below w.heap.size w w') : w'.ownsRow B e size v n xs := by
  refine ⟨h.1, ?_⟩
  rcases h.2 with h0 | ⟨g, cap, cur, hv, hg, hh, r⟩
  · exact .inl h0
  · exact .inr ⟨g, cap, cur, hv, hg, (hb.block g (at_lt hh)).trans hh, r⟩
theorem own_set {w : World} {B e size n : Nat} {v : Value} {xs : List Value} (h : w.ownsRow B e size v n xs) {k : Nat} (hk : k < B) (i : Nat) (x : Value) : (w.setCell ⟨k, i, none⟩ x).ownsRow B e size v n xs := by
  obtain ⟨h1, h2⟩ := h
  refine ⟨h1, ?_⟩
  rcases h2 with h2 | ⟨g, cap, cur, hv, hg, hh, r⟩
  · exact .inl h2
  · exact .inr ⟨g, cap, cur, hv, hg, by rw [at_set_other _ (by omega)]; exact hh, r⟩
theorem add0 (g n : Nat) : (⟨g, 0, none⟩ : Addr).add n = ⟨g, n, none⟩ := by cases n <;> simp [Addr.add]
/-- append onto an array of the call's own, whatever is appended -/
theorem append_any {P : Program} {w : World} {ops : Array Oper} {rest : List Oper} {o : Oper} {a : Act} {Q : Exit → Act → World → Prop} (hgd : o.guard = none) (s x : Operand) (t : TypeId)
    (ho : o.op = .call { callee := .builtin .append, args := #[s, x], argTypes := #[t, t] })
    (base : Nat) (e : TypeId) (i : TypeInfo) (z : Value) (size bytes : Nat) (ht : P.underlying t = some (.slice e)) (hi : P.info? e = some i) (hz : i.zero = some z)
    (hsize : i.size = size) (hby : i.bytes = bytes) (hzs : z.cells.size = size) (hsz : 0 < size)
    (v : Value) (n : Nat) (xs : List Value) (hs : a.eval s = v) (hown : w.ownsRow base e size v n xs)
    (ao : Option Addr) (m c : Nat) (news : List Value) (hx : a.eval x = .slice ao m c) (hnone : ao = none → m = 0 ∧ c = 0) (hl : news.length = m * size)
    (hnews : ∀ ad, ao = some ad → ∀ j u, news[j]? = some u → w.cell? (ad.add j) = some u) (h1 : ∀ u ∈ news, u.oneCell' = true)
    (h63 : n + m ≤ maxLen) (hbytes : (n + m) * bytes ≤ 140737488355328) (hbase : base ≤ w.heap.size)
    (h : ∀ v' w', w'.ownsRow base e size v' (n + m) (xs ++ news) → w.grownBy w' v.ownBlock → wpList P ops Q rest (a.put o.dst v') w') : wpList P ops Q (o :: rest) a w := by
  cases ao with
  | some ad => exact wpList_append_own w hgd s x t ho base e i z size bytes ht hi hz hsize hby hzs hsz v n xs hs hown ad m c news hx hl (hnews ad rfl) h1 h63 hbytes hbase fun v' w' a b _ => h v' w' a b
  | none =>
    obtain ⟨rfl, rfl⟩ := hnone rfl
    obtain rfl : news = [] := List.eq_nil_of_length_eq_zero (by simpa using hl)
    exact wpList_append_own_none hgd s x t ho base e i size ht hi v n xs hs hown hx (h v w (by simpa using hown) (World.grownBy.refl _ _))
theorem three_new (w : World) (x y z : Value) (T : TypeId) (g : Nat) (hg : g = w.heap.size) : ∀ ad, some (⟨g, 0, none⟩ : Addr) = some ad → ∀ j u, [x, y, z][j]? = some u → (w.alloc (.cells #[x, y, z] T (0, 0))).cell? (ad.add j) = some u := by
  subst hg
  rintro ad ⟨⟩ j u hu
  rw [add0, at_cell (at_new w _)]
  simpa using hu
end Go.Proofs.YtpaeemkdjgbejaaGreat.Own
end


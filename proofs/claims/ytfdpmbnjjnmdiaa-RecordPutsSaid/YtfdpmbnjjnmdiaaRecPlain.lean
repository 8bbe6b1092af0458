/-
  Layer 8 (record): items as bytes; plain Lean.
-/
import Derived.Test.YtfdpmbnjjnmdiaaSumMore
namespace Go.Proofs.Ytfdpmbnjjnmdiaa.Rec
open Go.Proofs.Ytfdpmbnjjnmdiaa.Sum

/-! numbers as so many bytes, the highest first -/
def dig : Nat → Int → List UInt8
  | 0, _ => []
  | w + 1, n => dig w (n / 256) ++ [byteI (n % 256)]
theorem dig_len (w : Nat) : ∀ n, (dig w n).length = w := by
  induction w with
  | zero => intro n; rfl
  | succ w ih => intro n; simp [dig, ih]
theorem be_app1 (l : List UInt8) (c : UInt8) : be (l ++ [c]) = be l * 256 + (c.toNat : Int) := by unfold be; rw [List.foldl_append]; rfl
theorem be_dig (w : Nat) : ∀ n : Int, 0 ≤ n → n < 256 ^ w → be (dig w n) = n := by
  induction w with
  | zero => intro n h0 h1; rw [Int.pow_zero] at h1; show (0 : Int) = n; omega
  | succ w ih =>
    intro n h0 h1
    rw [Int.pow_succ] at h1
    rw [dig, be_app1, ih _ (by omega) (by omega), byteI_back (by omega) (by omega)]
    omega
theorem rev_ind {P : List UInt8 → Prop} (h0 : P []) (h1 : ∀ l c, P l → P (l ++ [c])) (l : List UInt8) : P l := by
  rw [← List.reverse_reverse l]
  induction l.reverse with
  | nil => exact h0
  | cons c r ih => rw [List.reverse_cons]; exact h1 _ _ ih
theorem be_bounds (l : List UInt8) : 0 ≤ be l ∧ be l < 256 ^ l.length := by
  refine rev_ind (P := fun l => 0 ≤ be l ∧ be l < 256 ^ l.length) ?_ ?_ l
  · exact ⟨Int.le_refl _, by show (0 : Int) < 1; omega⟩
  · intro l c ih
    rw [be_app1, List.length_append, List.length_singleton, Int.pow_succ]
    have := c.toNat_lt
    omega
theorem byteI_toNat (c : UInt8) : byteI (c.toNat : Int) = c := by
  apply UInt8.toNat_inj.1
  have := byteI_back (n := (c.toNat : Int)) (by omega) (by have := c.toNat_lt; omega)
  omega
theorem dig_be (l : List UInt8) : dig l.length (be l) = l := by
  refine rev_ind (P := fun l => dig l.length (be l) = l) rfl ?_ l
  · intro l c ih
    have := c.toNat_lt
    rw [be_app1, List.length_append, List.length_singleton, dig, show (be l * 256 + (c.toNat : Int)) / 256 = be l by omega, ih, show (be l * 256 + (c.toNat : Int)) % 256 = (c.toNat : Int) by omega, byteI_toNat]
theorem be_inj {l m : List UInt8} (h : l.length = m.length) (e : be l = be m) : l = m := by rw [← dig_be l, ← dig_be m, h, e]

/-! items -/
structure Itm where
  k : Int
  a : Int
  b : ByteArray
def Itm.zero : Itm := ⟨0, 0, ByteArray.empty⟩
def chk (x : Itm) : Int := if x.k < 1 ∨ 15 < x.k then 1 else if x.a < 0 ∨ 1099511627776 < x.a then 2 else if 4096 < x.b.size then 5 else 0
theorem chk_ok {x : Itm} : chk x = 0 ↔ 1 ≤ x.k ∧ x.k ≤ 15 ∧ 0 ≤ x.a ∧ x.a ≤ 1099511627776 ∧ x.b.size ≤ 4096 := by
  unfold chk
  split
  · constructor <;> intro h <;> omega
  · split
    · constructor <;> intro h <;> omega
    · split
      · constructor <;> intro h <;> omega
      · constructor
        · intro _; omega
        · intro _; rfl
theorem chk_arg {x : Itm} (h : x.k < 1 ∨ 15 < x.k) : chk x = 1 := if_pos h
theorem chk_range {x : Itm} (h1 : 1 ≤ x.k) (h2 : x.k ≤ 15) (h : x.a < 0 ∨ 1099511627776 < x.a) : chk x = 2 := by unfold chk; rw [if_neg (by omega), if_pos h]
theorem chk_size {x : Itm} (h1 : 1 ≤ x.k) (h2 : x.k ≤ 15) (h3 : 0 ≤ x.a) (h4 : x.a ≤ 1099511627776) (h : 4096 < x.b.size) : chk x = 5 := by unfold chk; rw [if_neg (by omega), if_neg (by omega), if_pos h]
theorem chk_range_of (x : Itm) : 0 ≤ chk x ∧ chk x ≤ 5 := by
  unfold chk
  split
  · omega
  · split
    · omega
    · split <;> omega

def headL (x : Itm) : List UInt8 := 87 :: byteI x.k :: (dig 6 x.a ++ dig 2 (x.b.size : Int))
def noSum (x : Itm) : List UInt8 := headL x ++ x.b.data.toList
def bytesOf (x : Itm) : List UInt8 := noSum x ++ putL (sumOf (noSum x))
theorem head_len (x : Itm) : (headL x).length = 10 := by simp [headL, dig_len]
theorem noSum_len (x : Itm) : (noSum x).length = 10 + x.b.size := by rw [noSum, List.length_append, head_len]; rfl
theorem bytes_len (x : Itm) : (bytesOf x).length = 14 + x.b.size := by rw [bytesOf, List.length_append, noSum_len, put_sum, four_len]; omega
def putV (x : Itm) : List UInt8 := if chk x = 0 then bytesOf x else []
theorem putV_ok {x : Itm} (h : chk x = 0) : putV x = bytesOf x := if_pos h
theorem putV_no {x : Itm} (h : chk x ≠ 0) : putV x = [] := if_neg h

def flat (l : List Itm) : List UInt8 := l.flatMap bytesOf
def allC : List Itm → Int
  | [] => 0
  | x :: l => if chk x = 0 then allC l else chk x
def allV (l : List Itm) : List UInt8 := if allC l = 0 then flat l else []
theorem allC_ok {l : List Itm} (h : ∀ x ∈ l, chk x = 0) : allC l = 0 := by
  induction l with
  | nil => rfl
  | cons x l ih => rw [allC, if_pos (h x (by simp))]; exact ih fun y hy => h y (by simp [hy])
theorem all_one (x : Itm) : allC [x] = chk x ∧ allV [x] = putV x := by
  have e : allC [x] = chk x := by
    by_cases h : chk x = 0
    · rw [allC, if_pos h, h]; rfl
    · rw [allC, if_neg h]
  refine ⟨e, ?_⟩
  unfold allV putV
  rw [e]
  simp [flat]
def tot (l : List Itm) : Nat := (l.map fun x => 14 + x.b.size).sum
theorem flat_len (l : List Itm) : (flat l).length = tot l := by
  induction l with
  | nil => rfl
  | cons x l ih => simp [flat, tot, bytes_len] at ih ⊢; first | done | omega
theorem flat_cons (x : Itm) (l : List Itm) : flat (x :: l) = bytesOf x ++ flat l := by simp [flat]
theorem flat_app (l m : List Itm) : flat (l ++ m) = flat l ++ flat m := by simp [flat]
theorem tot_cons (x : Itm) (l : List Itm) : tot (x :: l) = 14 + x.b.size + tot l := by simp [tot]
theorem tot_app (l m : List Itm) : tot (l ++ m) = tot l + tot m := by simp [tot]
theorem tot_take {l : List Itm} {k : Nat} (h : k < l.length) : tot (l.take (k + 1)) = tot (l.take k) + (14 + l[k].b.size) := by
  rw [List.take_add_one, List.getElem?_eq_getElem h, tot_app]; simp [tot]
theorem tot_le {l : List Itm} (h : ∀ x ∈ l, x.b.size ≤ 4096) : tot l ≤ l.length * 4110 := by
  induction l with
  | nil => simp [tot]
  | cons x l ih =>
    have h1 := h x (by simp)
    have := ih fun y hy => h y (by simp [hy])
    rw [tot_cons, List.length_cons]; omega
theorem tot_take_le (l : List Itm) (k : Nat) : tot (l.take k) ≤ tot l := by
  conv => rhs; rw [← List.take_append_drop k l, tot_app]
  omega

/-! read -/
def kd (l : List UInt8) : Int := ((l.getD 1 0).toNat : Int)
def at_ (l : List UInt8) : Int := be ((l.drop 2).take 6)
def ln (l : List UInt8) : Int := be ((l.drop 8).take 2)
def hdI (l : List UInt8) : Itm := ⟨kd l, at_ l, ByteArray.empty⟩
def hdC (l : List UInt8) : Int :=
  if l = [] then 13 else if l.head? ≠ some 87 then 3 else if l.length < 10 then 13 else if chk (hdI l) ≠ 0 then chk (hdI l) else if 4096 < ln l then 5 else 0
def hdX (l : List UInt8) : Itm := if hdC l = 0 then hdI l else .zero
def hdN (l : List UInt8) : Int := if hdC l = 0 then ln l else 0
def bodyL (l : List UInt8) : List UInt8 := (l.drop 10).take (ln l).toNat
def rdI (l : List UInt8) : Itm := ⟨kd l, at_ l, ⟨(bodyL l).toArray⟩⟩
def rdC (l : List UInt8) : Int := if hdC l ≠ 0 then hdC l else if (l.length : Int) < 14 + ln l then 13 else if fits (l.take (14 + (ln l).toNat)) = true then 0 else 4
def rdX (l : List UInt8) : Itm := if rdC l = 0 then rdI l else .zero
def rdN (l : List UInt8) : Int := if rdC l = 0 then 14 + ln l else 0
theorem ln_range (l : List UInt8) : 0 ≤ ln l ∧ ln l < 65536 := by
  have h := be_bounds ((l.drop 8).take 2)
  have h2 : ((l.drop 8).take 2).length ≤ 2 := by simp; omega
  have h3 : ((l.drop 8).take 2).length = 0 ∨ ((l.drop 8).take 2).length = 1 ∨ ((l.drop 8).take 2).length = 2 := by omega
  refine ⟨h.1, Int.lt_of_lt_of_le h.2 ?_⟩
  rcases h3 with e | e | e <;> rw [e] <;> decide
theorem at_range (l : List UInt8) : 0 ≤ at_ l ∧ at_ l < 281474976710656 := by
  have h := be_bounds ((l.drop 2).take 6)
  have h2 : ((l.drop 2).take 6).length ≤ 6 := by simp; omega
  have h3 : ∀ k : Nat, k ≤ 6 → (256 : Int) ^ k ≤ 281474976710656 := by
    intro k hk
    have : k = 0 ∨ k = 1 ∨ k = 2 ∨ k = 3 ∨ k = 4 ∨ k = 5 ∨ k = 6 := by omega
    rcases this with rfl | rfl | rfl | rfl | rfl | rfl | rfl <;> decide
  exact ⟨h.1, Int.lt_of_lt_of_le h.2 (h3 _ h2)⟩
theorem hd_nil : hdC [] = 13 := rfl
theorem hd_form {l : List UInt8} (h0 : l ≠ []) (h : l.head? ≠ some 87) : hdC l = 3 := by rw [hdC, if_neg h0, if_pos h]
theorem hd_short {l : List UInt8} (h0 : l ≠ []) (h : l.head? = some 87) (h1 : l.length < 10) : hdC l = 13 := by rw [hdC, if_neg h0, if_neg (by simpa using h), if_pos h1]
theorem hd_chk {l : List UInt8} (h : l.head? = some 87) (h1 : 10 ≤ l.length) (h2 : chk (hdI l) ≠ 0) : hdC l = chk (hdI l) := by
  rw [hdC, if_neg (by rintro rfl; simp at h1), if_neg (by simpa using h), if_neg (by omega), if_pos h2]
theorem hd_size {l : List UInt8} (h : l.head? = some 87) (h1 : 10 ≤ l.length) (h2 : chk (hdI l) = 0) (h3 : 4096 < ln l) : hdC l = 5 := by
  rw [hdC, if_neg (by rintro rfl; simp at h1), if_neg (by simpa using h), if_neg (by omega), if_neg (by simpa using h2), if_pos h3]
theorem hd_ok {l : List UInt8} (h : l.head? = some 87) (h1 : 10 ≤ l.length) (h2 : chk (hdI l) = 0) (h3 : ln l ≤ 4096) : hdC l = 0 := by
  rw [hdC, if_neg (by rintro rfl; simp at h1), if_neg (by simpa using h), if_neg (by omega), if_neg (by simpa using h2), if_neg (by omega)]
theorem hd_inv {l : List UInt8} (h : hdC l = 0) : l.head? = some 87 ∧ 10 ≤ l.length ∧ chk (hdI l) = 0 ∧ ln l ≤ 4096 := by
  unfold hdC at h
  split at h
  · omega
  · split at h
    · omega
    · split at h
      · omega
      · split at h
        · contradiction
        · split at h
          · omega
          · rename_i h1 h2 h3 h4 h5
            exact ⟨by simpa using h2, by omega, by simpa using h4, by omega⟩
theorem rd_hd {l : List UInt8} (h : hdC l ≠ 0) : rdC l = hdC l := if_pos h
theorem rd_cut {l : List UInt8} (h : hdC l = 0) (h1 : (l.length : Int) < 14 + ln l) : rdC l = 13 := by rw [rdC, if_neg (by simpa using h), if_pos h1]
theorem rd_sum {l : List UInt8} (h : hdC l = 0) (h1 : 14 + ln l ≤ (l.length : Int)) (h2 : fits (l.take (14 + (ln l).toNat)) = false) : rdC l = 4 := by
  rw [rdC, if_neg (by simpa using h), if_neg (by omega), if_neg (by rw [h2]; simp)]
theorem rd_ok {l : List UInt8} (h : hdC l = 0) (h1 : 14 + ln l ≤ (l.length : Int)) (h2 : fits (l.take (14 + (ln l).toNat)) = true) : rdC l = 0 := by
  rw [rdC, if_neg (by simpa using h), if_neg (by omega), if_pos h2]
theorem rd_inv {l : List UInt8} (h : rdC l = 0) : hdC l = 0 ∧ 14 + ln l ≤ (l.length : Int) ∧ fits (l.take (14 + (ln l).toNat)) = true := by
  unfold rdC at h
  split at h
  · contradiction
  · split at h
    · omega
    · split at h
      · rename_i h1 h2 h3
        exact ⟨by simpa using h1, by omega, h3⟩
      · omega
theorem rd_some {l : List UInt8} (h : rdC l = 0) : rdX l = rdI l ∧ rdN l = 14 + ln l := ⟨if_pos h, if_pos h⟩
theorem rd_none {l : List UInt8} (h : rdC l ≠ 0) : rdX l = .zero ∧ rdN l = 0 := ⟨if_neg h, if_neg h⟩
theorem hd_some {l : List UInt8} (h : hdC l = 0) : hdX l = hdI l ∧ hdN l = ln l := ⟨if_pos h, if_pos h⟩
theorem hd_none {l : List UInt8} (h : hdC l ≠ 0) : hdX l = .zero ∧ hdN l = 0 := ⟨if_neg h, if_neg h⟩
theorem chk_hdI {l : List UInt8} : chk (hdI l) = 0 ↔ 1 ≤ kd l ∧ kd l ≤ 15 ∧ at_ l ≤ 1099511627776 := by
  have := at_range l
  rw [chk_ok]
  show 1 ≤ kd l ∧ kd l ≤ 15 ∧ 0 ≤ at_ l ∧ at_ l ≤ 1099511627776 ∧ 0 ≤ 4096 ↔ _
  omega
theorem chk_rdI {l : List UInt8} (h : hdC l = 0) : chk (rdI l) = 0 := by
  obtain ⟨_, _, h2, h3⟩ := hd_inv h
  have := chk_hdI.1 h2
  have h4 := at_range l
  have h5 := ln_range l
  rw [chk_ok]
  refine ⟨this.1, this.2.1, h4.1, this.2.2, ?_⟩
  show (bodyL l).length ≤ 4096
  unfold bodyL
  simp
  omega

/-! what begins with an item's head -/
theorem hd_of {x : Itm} (hx : chk x = 0) (m : List UInt8) : hdC (headL x ++ m) = 0 ∧ kd (headL x ++ m) = x.k ∧ at_ (headL x ++ m) = x.a ∧ ln (headL x ++ m) = (x.b.size : Int) := by
  obtain ⟨k0, k1, a0, a1, b1⟩ := chk_ok.1 hx
  have e1 : kd (headL x ++ m) = x.k := by
    show ((byteI x.k).toNat : Int) = x.k
    exact byteI_back (by omega) (by omega)
  have e2 : at_ (headL x ++ m) = x.a := by
    have : (headL x ++ m).drop 2 = dig 6 x.a ++ (dig 2 (x.b.size : Int) ++ m) := by
      show (dig 6 x.a ++ dig 2 (x.b.size : Int)) ++ m = _
      rw [List.append_assoc]
    rw [at_, this, List.take_left' (dig_len 6 _), be_dig 6 _ a0 (by show x.a < 281474976710656; omega)]
  have e3 : ln (headL x ++ m) = (x.b.size : Int) := by
    have : (headL x ++ m).drop 8 = dig 2 (x.b.size : Int) ++ m := by
      show ((dig 6 x.a ++ dig 2 (x.b.size : Int)) ++ m).drop 6 = _
      rw [List.append_assoc, List.drop_left' (dig_len 6 _)]
    rw [ln, this, List.take_left' (dig_len 2 _), be_dig 2 _ (by omega) (by show _ < (65536 : Int); omega)]
  refine ⟨hd_ok rfl (by rw [List.length_append, head_len]; omega) (chk_hdI.2 (by rw [e1, e2]; omega)) (by rw [e3]; omega), e1, e2, e3⟩
theorem bytes_app (x : Itm) (m : List UInt8) : bytesOf x ++ m = headL x ++ (x.b.data.toList ++ (putL (sumOf (noSum x)) ++ m)) := by
  simp only [bytesOf, noSum, List.append_assoc]
theorem read_put {x : Itm} (hx : chk x = 0) (m : List UInt8) : rdC (bytesOf x ++ m) = 0 ∧ rdX (bytesOf x ++ m) = x ∧ rdN (bytesOf x ++ m) = 14 + (x.b.size : Int) := by
  have hl := bytes_len x
  obtain ⟨h0, h1, h2, h3⟩ := hd_of hx (x.b.data.toList ++ (putL (sumOf (noSum x)) ++ m))
  rw [← bytes_app] at h0 h1 h2 h3
  have hr : rdC (bytesOf x ++ m) = 0 := by
    refine rd_ok h0 (by rw [h3, List.length_append, hl]; omega) ?_
    rw [h3, show 14 + ((x.b.size : Int)).toNat = (bytesOf x).length by rw [hl]; omega, List.take_left]
    exact fits_put _
  obtain ⟨e1, e2⟩ := rd_some hr
  refine ⟨hr, ?_, by rw [e2, h3]⟩
  rw [e1]
  unfold rdI
  have hb : bodyL (bytesOf x ++ m) = x.b.data.toList := by
    unfold bodyL
    rw [h3, bytes_app, List.drop_left' (head_len x), List.take_left' (by show x.b.data.toList.length = _; rw [Array.length_toList]; show x.b.data.size = ((x.b.data.size : Int)).toNat; omega)]
  rw [h1, h2, hb, Array.toArray_toList]
theorem read_cut {x : Itm} (hx : chk x = 0) {j : Nat} (hj : j < 14 + x.b.size) (m : List UInt8) : rdC ((bytesOf x ++ m).take j) ≠ 0 := by
  intro h
  obtain ⟨h0, h1, h2⟩ := rd_inv h
  obtain ⟨_, h3, _, _⟩ := hd_inv h0
  have hl := bytes_len x
  have hj10 : 10 ≤ j := by rw [List.length_take] at h3; omega
  have e : (bytesOf x ++ m).take j = headL x ++ (x.b.data.toList ++ (putL (sumOf (noSum x)) ++ m)).take (j - 10) := by
    rw [bytes_app, List.take_append, head_len, List.take_of_length_le (by rw [head_len]; omega)]
  obtain ⟨_, _, _, g⟩ := hd_of hx ((x.b.data.toList ++ (putL (sumOf (noSum x)) ++ m)).take (j - 10))
  rw [← e] at g
  rw [g, List.length_take, List.length_append, hl] at h1
  omega

/-! an item that is read, put again -/
theorem head_back {l : List UInt8} (h : hdC l = 0) (h1 : 14 + ln l ≤ (l.length : Int)) : headL (rdI l) = l.take 10 := by
  obtain ⟨h2, h3, h4, h5⟩ := hd_inv h
  have hl := ln_range l
  match l, h2, h3 with
  | a :: b :: r, h2, h3 =>
    obtain rfl : a = 87 := by simpa using h2
    have hr : 8 ≤ r.length := by simpa using h3
    have e1 : byteI (kd (87 :: b :: r)) = b := byteI_toNat b
    have e2 : dig 6 (at_ (87 :: b :: r)) = r.take 6 := by
      have := dig_be (r.take 6)
      rw [List.length_take, Nat.min_eq_left (by omega)] at this
      exact this
    have e3 : ((rdI (87 :: b :: r)).b.size : Int) = ln (87 :: b :: r) := by
      show ((bodyL (87 :: b :: r)).length : Int) = _
      unfold bodyL
      rw [List.length_take, List.length_drop]
      omega
    have e4 : dig 2 (ln (87 :: b :: r)) = (r.drop 6).take 2 := by
      have := dig_be ((r.drop 6).take 2)
      rw [List.length_take, List.length_drop, Nat.min_eq_left (by omega)] at this
      exact this
    unfold headL
    rw [e3, e4]
    show 87 :: byteI (kd (87 :: b :: r)) :: (dig 6 (at_ (87 :: b :: r)) ++ _) = _
    rw [e1, e2, ← List.take_add]
    rfl
theorem put_back {l : List UInt8} (h : hdC l = 0) (h1 : 14 + ln l ≤ (l.length : Int)) : (l.take (14 + (ln l).toNat) = bytesOf (rdI l)) ↔ fits (l.take (14 + (ln l).toNat)) = true := by
  have hl := ln_range l
  have e0 : noSum (rdI l) = l.take (10 + (ln l).toNat) := by
    rw [noSum, head_back h h1, List.take_add]; rfl
  have el : (l.take (14 + (ln l).toNat)).length = 14 + (ln l).toNat := by rw [List.length_take]; omega
  have e1 : (l.take (14 + (ln l).toNat)).take (10 + (ln l).toNat) = noSum (rdI l) := by rw [e0, List.take_take, Nat.min_eq_left (by omega)]
  rw [fits_long (by omega), el, show 14 + (ln l).toNat - 4 = 10 + (ln l).toNat by omega, e1, beq_iff_eq]
  conv => lhs; lhs; rw [← List.take_append_drop (10 + (ln l).toNat) (l.take (14 + (ln l).toNat)), e1]
  rw [bytesOf, List.append_cancel_left_eq]
  exact eq_comm

/-! one behind the other -/
set_option linter.unusedVariables false in
def scan (l : List UInt8) : List Itm × Int :=
  if h : rdC l = 0 then (rdX l :: (scan (l.drop (14 + (ln l).toNat))).1, rdN l + (scan (l.drop (14 + (ln l).toNat))).2) else ([], 0)
termination_by l.length
decreasing_by
  all_goals
    have := (rd_inv h).2.1
    have := ln_range l
    rw [List.length_drop]; omega
theorem scan_ok {l : List UInt8} (h : rdC l = 0) : scan l = (rdX l :: (scan (l.drop (14 + (ln l).toNat))).1, rdN l + (scan (l.drop (14 + (ln l).toNat))).2) := by
  rw [scan, dif_pos h]
theorem scan_no {l : List UInt8} (h : rdC l ≠ 0) : scan l = ([], 0) := by rw [scan, dif_neg h]
/-- how many items are there whole -/
def fitn : List Itm → Nat → Nat
  | [], _ => 0
  | x :: l, j => if 14 + x.b.size ≤ j then fitn l (j - (14 + x.b.size)) + 1 else 0
theorem fitn_le (l : List Itm) : ∀ j, fitn l j ≤ l.length := by
  induction l with
  | nil => intro j; exact Nat.le_refl _
  | cons x l ih =>
    intro j
    rw [fitn]; split
    · have := ih (j - (14 + x.b.size)); simp; omega
    · omega
theorem scan_torn {l : List Itm} (h : ∀ x ∈ l, chk x = 0) : ∀ j, scan ((flat l).take j) = (l.take (fitn l j), ((tot (l.take (fitn l j)) : Nat) : Int)) := by
  induction l with
  | nil => intro j; show scan (([] : List UInt8).take j) = _; rw [List.take_nil, scan_no (by decide)]; rfl
  | cons x l ih =>
    intro j
    have hx := h x (by simp)
    have ih' := ih fun y hy => h y (by simp [hy])
    have hl := bytes_len x
    by_cases hj : 14 + x.b.size ≤ j
    · have e : (flat (x :: l)).take j = bytesOf x ++ (flat l).take (j - (14 + x.b.size)) := by
        rw [flat_cons, List.take_append, hl, List.take_of_length_le (by omega)]
      obtain ⟨r1, r2, r3⟩ := read_put hx ((flat l).take (j - (14 + x.b.size)))
      have e2 : 14 + (ln (bytesOf x ++ (flat l).take (j - (14 + x.b.size)))).toNat = (bytesOf x).length := by
        have := (rd_some r1).2
        rw [r3] at this
        rw [hl]; omega
      rw [e, scan_ok r1, e2, List.drop_left, r2, r3, ih', fitn, if_pos hj, List.take_succ_cons, tot_cons]
      congr 1
    · rw [flat_cons, scan_no (read_cut hx (by omega) _), fitn, if_neg hj]; rfl
theorem fitn_next (l : List Itm) : ∀ (j k : Nat) (hk : k < l.length), k ≤ fitn l j → (14 + (l[k]'hk).b.size + tot (l.take k) ≤ j ↔ k < fitn l j) := by
  induction l with
  | nil => intro j k hk; simp at hk
  | cons x l ih =>
    intro j k hk hf
    cases k with
    | zero =>
      rw [fitn]
      split
      · rename_i h; simp [tot]; omega
      · rename_i h; simp [tot]; omega
    | succ k =>
      rw [fitn] at hf ⊢
      by_cases h : 14 + x.b.size ≤ j
      · rw [if_pos h] at hf ⊢
        have := ih (j - (14 + x.b.size)) k (by simpa using hk) (by omega)
        rw [List.take_succ_cons, tot_cons]
        show 14 + (l[k]'(by simpa using hk)).b.size + (14 + x.b.size + tot (l.take k)) ≤ j ↔ _
        omega
      · rw [if_neg h] at hf; omega

/-! a byte that was turned -/
theorem four_inj {m n : Int} (m0 : 0 ≤ m) (m1 : m < 2147483647) (n0 : 0 ≤ n) (n1 : n < 2147483647) (h : four m = four n) : m = n := by
  rw [← be_put m0 m1, ← be_put n0 n1, h]
theorem set_ne {l : List UInt8} {i : Nat} {c : UInt8} (hi : i < l.length) (hc : c ≠ l[i]) : l.set i c ≠ l := by
  intro e
  apply hc
  have : (l.set i c)[i]'(by simpa using hi) = c := by simp
  rw [← this]
  congr 1
theorem turned_far {x : Itm} (hx : chk x = 0) {i : Nat} {c : UInt8} (hi : i < (bytesOf x).length) (hc : c ≠ (bytesOf x)[i]) (h8 : i ≠ 8) (h9 : i ≠ 9) : rdC ((bytesOf x).set i c) ≠ 0 := by
  intro h
  obtain ⟨h0, h1, h2⟩ := rd_inv h
  obtain ⟨h3, _, _, _⟩ := hd_inv h0
  have hl := bytes_len x
  have hn := noSum_len x
  have hp : bytesOf x = headL x ++ (x.b.data.toList ++ (putL (sumOf (noSum x)) ++ [])) := by rw [← bytes_app, List.append_nil]
  by_cases hi0 : i = 0
  · subst hi0
    have e : (bytesOf x)[0] = 87 := by simp only [hp]; rfl
    rw [e] at hc
    rw [hp] at h3
    exact hc (by simpa [headL] using h3)
  · have e : ln ((bytesOf x).set i c) = (x.b.size : Int) := by
      have g := (hd_of hx (x.b.data.toList ++ (putL (sumOf (noSum x)) ++ []))).2.2.2
      rw [← hp] at g
      rw [← g]
      unfold ln
      congr 1
      rw [List.drop_set]
      split
      · rfl
      · rw [List.take_set, List.set_eq_of_length_le (by simp; omega)]
    rw [e, show 14 + ((x.b.size : Int)).toNat = 14 + x.b.size by omega, List.take_of_length_le (by simp; omega), fits_long (by simp; omega), List.length_set, hl, show 14 + x.b.size - 4 = 10 + x.b.size by omega, beq_iff_eq] at h2
    have t : (bytesOf x).take (10 + x.b.size) = noSum x := by rw [← hn, bytesOf, List.take_left]
    have d : (bytesOf x).drop (10 + x.b.size) = putL (sumOf (noSum x)) := by rw [← hn, bytesOf, List.drop_left]
    rw [List.take_set, t, List.drop_set, d] at h2
    by_cases hi1 : i < 10 + x.b.size
    · rw [if_pos hi1, put_sum, put_sum] at h2
      have r1 := sumOf_range ((noSum x).set i c)
      have r2 := sumOf_range (noSum x)
      have hs := four_inj r1.1 r1.2 r2.1 r2.2 h2
      have hi2 : i < (noSum x).length := by omega
      rw [turned hi2] at hs
      apply hc
      rw [hs]
      simp only [bytesOf]
      rw [List.getElem_append_left hi2]
    · rw [if_neg hi1, List.set_eq_of_length_le (by omega)] at h2
      have hi3 : i - (10 + x.b.size) < (putL (sumOf (noSum x))).length := by rw [put_sum, four_len]; omega
      refine set_ne hi3 ?_ h2.symm
      intro e2
      apply hc
      rw [e2]
      simp only [bytesOf]
      rw [List.getElem_append_right (by omega)]
      congr 1
      omega
theorem turned_near {x : Itm} (hx : chk x = 0) {i : Nat} {c : UInt8} (hi : i < (bytesOf x).length) (hc : c ≠ (bytesOf x)[i]) (h8 : i = 8 ∨ i = 9) (h : rdC ((bytesOf x).set i c) = 0) :
    (rdX ((bytesOf x).set i c)).b.size < x.b.size ∧ rdN ((bytesOf x).set i c) < 14 + (x.b.size : Int) := by
  obtain ⟨h0, h1, h2⟩ := rd_inv h
  obtain ⟨e1, e2⟩ := rd_some h
  have hl := bytes_len x
  have hp : bytesOf x = headL x ++ (x.b.data.toList ++ (putL (sumOf (noSum x)) ++ [])) := by rw [← bytes_app, List.append_nil]
  have g := (hd_of hx (x.b.data.toList ++ (putL (sumOf (noSum x)) ++ []))).2.2.2
  rw [← hp] at g
  have r := ln_range ((bytesOf x).set i c)
  have hne : ln ((bytesOf x).set i c) ≠ (x.b.size : Int) := by
    rw [← g]
    unfold ln
    rw [List.drop_set, if_neg (by omega), List.take_set]
    intro e
    have := be_inj (by simp) e
    have hi2 : i - 8 < (((bytesOf x).drop 8).take 2).length := by simp; omega
    refine set_ne hi2 ?_ this
    intro e3
    apply hc
    rw [e3]
    simp only [List.getElem_take, List.getElem_drop]
    congr 1
    omega
  rw [List.length_set, hl] at h1
  rw [e1, e2]
  refine ⟨?_, by omega⟩
  show (bodyL _).length < _
  unfold bodyL
  rw [List.length_take]
  omega

end Go.Proofs.Ytfdpmbnjjnmdiaa.Rec

/-
  Layer 12 (lex): a range over a text, sign by sign: what a round reads; the program's small calls.
-/
import Derived.Test.YtabpkpeonbdinaaDoorLexPlain
import Derived.Test.YtabpkpeonbdinaaDoorShelf
import Derived.Test.YtabpkpeonbdinaaDoorOwn
import Derived.Lib.OthersKept
import Derived.Lib.SpaceUEq
import Derived.Lib.TrimU
import Derived.Lib.IndexLaws
namespace Go.Proofs.YtabpkpeonbdinaaDoor.Lex
open Go.RowKit Go.Proofs.YtabpkpeonbdinaaDoor.Own

theorem iterPos_of {w : World} {k : Nat} {s : ByteArray} {p : Nat} (h : w.heap[k]? = some (.stringIter s p)) : w.iterPos k = p := by simp [World.iterPos, h]
theorem list_size (s : ByteArray) : s.data.toList.length = s.size := rfl
theorem drop_at (s : ByteArray) (pos : Nat) (h : pos < s.size) : s.data.toList.drop pos = s[pos]'h :: s.data.toList.drop (pos + 1) :=
  List.drop_eq_getElem_cons (l := s.data.toList) (i := pos) h
theorem drop_all (s : ByteArray) {pos : Nat} (h : s.size ≤ pos) : s.data.toList.drop pos = [] := List.drop_of_length_le h

open Go.Lib in
/-- a sign of more than one byte, or a byte that is none: no byte of it is one of the signs that count -/
theorem dec_span (s : ByteArray) (pos : Nat) (hp : pos < s.size) (ha : 128 ≤ (s[pos]'hp).toNat) :
    128 ≤ (Utf8.decode s pos).1 ∧ 1 ≤ (Utf8.decode s pos).2 ∧ pos + (Utf8.decode s pos).2 ≤ s.size ∧ ∀ j (_ : j < (Utf8.decode s pos).2) (hj : pos + j < s.size), 128 ≤ (s[pos + j]'hj).toNat := by
  obtain ⟨h1, h2⟩ := decode_high s pos hp ha
  have hg : ∀ i (hi : i < s.size), s.get! i = s[i]'hi := by
    intro i hi
    rw [ByteArray.get!, Array.getElem!_eq_getD, Array.getD_eq_getD_getElem?, Array.getElem?_eq_getElem (show i < s.data.size from hi)]; rfl
  rw [decode_at] at h1 h2 ⊢
  obtain ⟨c2, c3, c4, c5⟩ := decodeN_conts (s.size - pos) (s.get! pos).toNat (s.get! (pos + 1)).toNat (s.get! (pos + 2)).toNat (s.get! (pos + 3)).toNat
  refine ⟨h1, h2, by omega, fun j hj hjs => ?_⟩
  rw [← hg _ hjs]
  match j, hj with
  | 0, _ => rw [Nat.add_zero, hg _ hp]; exact ha
  | 1, hj => have := (c2 (by omega)).1; omega
  | 2, hj => have := (c3 (by omega)).1; omega
  | 3, hj => have := (c4 (by omega)).1; omega
  | j + 4, hj => omega

/-- what a round of a range reads: a sign R of K bytes -/
structure Sign (s : ByteArray) (pos R K : Nat) (hp : pos < s.size) : Prop where
  is : Utf8.decode s pos = (R, K)
  low : (s[pos]'hp).toNat < 128 → R = (s[pos]'hp).toNat ∧ K = 1
  high : 128 ≤ (s[pos]'hp).toNat → 128 ≤ R ∧ ∀ j (_ : j < K) (hj : pos + j < s.size), 128 ≤ (s[pos + j]'hj).toNat
  one : 1 ≤ K
  le : pos + K ≤ s.size
  top : R ≤ 1114111
theorem sign_of (s : ByteArray) (pos : Nat) (hp : pos < s.size) : ∃ R K, Sign s pos R K hp := by
  have top := Lib.rune_le s pos
  refine ⟨(Utf8.decode s pos).1, (Utf8.decode s pos).2, ⟨Prod.ext rfl rfl, ?_, ?_, ?_, ?_, top⟩⟩
  · intro h; rw [decode_ascii s pos hp h]; exact ⟨rfl, rfl⟩
  · intro h; have := dec_span s pos hp h; exact ⟨this.1, this.2.2.2⟩
  · exact Lib.width_pos s pos
  · by_cases h : (s[pos]'hp).toNat < 128
    · rw [decode_ascii s pos hp h]; exact hp
    · exact (dec_span s pos hp (by omega)).2.2.1
theorem Sign.next {s : ByteArray} {pos R K : Nat} {hp : pos < s.size} (h : Sign s pos R K hp) {w : World} {k : Nat} (hk : w.heap[k]? = some (.stringIter s pos)) (ty : TypeId) :
    (Instr.next (.pointer (some ⟨k, 0, none⟩)) true ty).run Tryd.prog w = .ok (.tuple #[.bool true, .int .i64 pos, .int .i32 R]) (w.iterAt k s (pos + K)) := by
  rw [Lib.run_next_any_at w k s pos ty hk hp, h.is]
theorem Sign.skip {s : ByteArray} {pos R K : Nat} {hp : pos < s.size} (h : Sign s pos R K hp) (hh : 128 ≤ (s[pos]'hp).toNat) :
    Lex.skip true (s.data.toList.drop pos) = K + Lex.skip true (s.data.toList.drop (pos + K)) := by
  have e : s.data.toList.drop pos = (s.data.toList.drop pos).take K ++ s.data.toList.drop (pos + K) := by
    rw [← List.drop_drop, List.take_append_drop]
  have hl : ((s.data.toList.drop pos).take K).length = K := by
    rw [List.length_take, List.length_drop, list_size]; have := h.le; omega
  rw [e, skip_high, hl]
  intro c hc
  obtain ⟨j, hj, rfl⟩ := List.mem_iff_getElem.1 hc
  rw [hl] at hj
  have := (h.high hh).2 j hj (by have := h.le; omega)
  simp only [List.getElem_take, List.getElem_drop]
  change 128 ≤ (s.data.toList[pos + j]'_).toNat at this
  omega

/-! ### the program's small calls -/
theorem quotable_calls (n : Nat) (w : World) : Calls Tryd.prog 56 #[.int .i32 n] w fun e w' => e = .returned (.bool (qb n)) ∧ w' = w := by
  by_cases h1 : 32 ≤ n
  · by_cases h2 : n ≤ 126
    · have e : qb n = true := (qb_iff n).2 ⟨h1, h2⟩
      have q1 : (32 : Int) ≤ n := by omega
      have q2 : (n : Int) ≤ 126 := by omega
      rw [e]
      go_enter Tryd.func56, Tryd.ntmps56
      go_wp2_with fail
      go_ret
      exact ⟨rfl, rfl⟩
    · have e : qb n = false := by simp [qb]; omega
      have q1 : (32 : Int) ≤ n := by omega
      have q2 : ¬ (n : Int) ≤ 126 := by omega
      rw [e]
      go_enter Tryd.func56, Tryd.ntmps56
      go_wp2_with fail
      go_ret
      exact ⟨rfl, rfl⟩
  · have e : qb n = false := by simp [qb]; omega
    have q1 : ¬ (32 : Int) ≤ n := by omega
    rw [e]
    go_enter Tryd.func56, Tryd.ntmps56
    go_wp2_with fail
    go_ret
    exact ⟨rfl, rfl⟩
theorem escaped_calls (n : Nat) (w : World) : Calls Tryd.prog 57 #[.int .i32 n] w fun e w' => e = .returned (.bool (eb n)) ∧ w' = w := by
  by_cases h1 : n = 34
  · subst h1
    go_enter Tryd.func57, Tryd.ntmps57
    go_wp2_with fail
    go_ret
    exact ⟨rfl, rfl⟩
  · have q1 : ((n : Int) == 34) = false := by simp; omega
    by_cases h2 : n = 92
    · subst h2
      go_enter Tryd.func57, Tryd.ntmps57
      go_wp2_with fail
      go_ret
      exact ⟨rfl, rfl⟩
    · have q2 : ((n : Int) == 92) = false := by simp; omega
      have e : eb n = false := by simp [eb, h1, h2]
      rw [e]
      clear h1 h2 e
      go_enter Tryd.func57, Tryd.ntmps57
      go_wp2_with fail
      go_ret
      exact ⟨rfl, rfl⟩
def toldT (s : ByteArray) (b : Bool) : ByteArray := if b = true then s else ⟨#[]⟩
def toldC (b : Bool) : Int := if b = true then 0 else 3
theorem told_calls (s : ByteArray) (b : Bool) (w : World) : Calls Tryd.prog 71 #[.string s, .bool b] w fun e w' => e = .returned (.tuple #[.string (toldT s b), .int .i64 (toldC b)]) ∧ w' = w := by
  cases b
  · go_enter Tryd.func71, Tryd.ntmps71
    go_wp2_with fail
    go_ret2
    exact ⟨rfl, rfl⟩
  · go_enter Tryd.func71, Tryd.ntmps71
    go_wp2_with fail
    go_ret2
    exact ⟨rfl, rfl⟩
set_option maxRecDepth 1000000 in
/-- is an ASCII sign one that ends a word? -/
theorem ends_calls (n : Nat) (h : n < 128) (w : World) : Calls Tryd.prog 58 #[.string ⟨#[123, 125, 59, 34, 35, 92]⟩, .int .i32 n] w
    fun e w' => e = .returned (.bool (n == 123 || n == 125 || n == 59 || n == 34 || n == 35 || n == 92)) ∧ w' = w := by
  have H := Tryd.strings_ContainsRune_ascii ⟨#[123, 125, 59, 34, 35, 92]⟩ n w (by omega) (by omega)
  have e : decide (0 ≤ Lib.indexByte [123, 125, 59, 34, 35, 92] (n : Int).toNat.toUInt8) = (n == 123 || n == 125 || n == 59 || n == 34 || n == 35 || n == 92) := by
    rw [Int.toNat_natCast]
    clear H
    have : ∀ m : Fin 128, decide (0 ≤ Lib.indexByte [123, 125, 59, 34, 35, 92] m.val.toUInt8) = (m.val == 123 || m.val == 125 || m.val == 59 || m.val == 34 || m.val == 35 || m.val == 92) := by decide
    exact this ⟨n, h⟩
  rw [show (⟨#[123, 125, 59, 34, 35, 92]⟩ : ByteArray).data.toList = [123, 125, 59, 34, 35, 92] from rfl, e] at H
  exact H
def mkI (n : Nat) : Int := if n = 123 then 0 else if n = 125 then 1 else if n = 59 then 2 else -1
set_option maxRecDepth 1000000 in
/-- which mark is a byte? -/
theorem marks_calls (n : Nat) (h : n < 256) (w : World) : Calls Tryd.prog 38 #[.string ⟨#[123, 125, 59]⟩, .int .u8 n] w
    fun e w' => e = .returned (.int .i64 (mkI n)) ∧ w' = w := by
  have H := Tryd.strings_IndexByte ⟨#[123, 125, 59]⟩ n w
  have e : Lib.indexByte [123, 125, 59] (n : Int).toNat.toUInt8 = mkI n := by
    rw [Int.toNat_natCast]
    clear H
    have : ∀ m : Fin 256, Lib.indexByte [123, 125, 59] m.val.toUInt8 = mkI m.val := by decide
    exact this ⟨n, h⟩
  rw [show (⟨#[123, 125, 59]⟩ : ByteArray).data.toList = [123, 125, 59] from rfl, e] at H
  exact H
end Go.Proofs.YtabpkpeonbdinaaDoor.Lex

/-
  Layer 9 (fault): the law on what is wrapped, walked.
-/
import Derived.Test.YtpjjfcgebgejaaaDoorFltWorks
namespace Go.Proofs.YtpjjfcgebgejaaaDoor.Flt
open Go.RowKit Go.Proofs.YtpjjfcgebgejaaaDoor.Own Go.Proofs.YtpjjfcgebgejaaaDoor.Digit

theorem cut_from {P : Program} (t : TypeId) (ht : P.underlying t = some .string) (s : ByteArray) (i : Int) (h0 : 0 ≤ i) (h : i ≤ s.size) (W : World) :
    (Instr.sliceAt t (.string s) (some (.int .i64 i)) none none).run P W = .ok (.string (s.extract i.toNat s.size)) W := by
  rw [run_sliceAt_string W t _ _ _ _ ht, run_slice_string_from_if W t s .i64 i ht, if_pos ⟨h0, h⟩]
theorem join_suf (a : List UInt8) (r : List (List UInt8)) : ∃ P, Lib.join (a :: r) sep = P ++ Lib.join r sep := by
  cases r with
  | nil => exact ⟨a, by rw [Lib.join_one, Lib.join_nil, List.append_nil]⟩
  | cons b s => exact ⟨a ++ sep, by rw [Lib.join_cons, Lib.join_cons]; simp [Lib.joinTail, List.append_assoc]⟩
theorem full_suf (a : List UInt8) (r : List (List UInt8)) : ∃ P, Lib.join (full (a :: r)) sep = P ++ Lib.join (full r) sep := by
  by_cases h : a = []
  · subst h; exact ⟨[], rfl⟩
  · rw [full_cons h]; exact join_suf a _
theorem text_suf (x : Lay) (l : List Lay) (c : Int) : ∃ P, textL (x :: l) c = P ++ textL l c := by
  obtain ⟨P, hP⟩ := full_suf (placeL x.line) (x.what :: (pieces l ++ [wordL c]))
  obtain ⟨Q, hQ⟩ := full_suf x.what (pieces l ++ [wordL c])
  refine ⟨P ++ Q, ?_⟩
  rw [textL, pieces_cons]
  show Lib.join (full (placeL x.line :: x.what :: (pieces l ++ [wordL c]))) sep = _
  rw [hP, hQ, List.append_assoc]; rfl
def OkL (x : Lay) : Prop := (-9223372036854775808 ≤ x.line ∧ x.line ≤ 9223372036854775807) ∧ x.what.length ≤ 100
theorem mk_ok {c : Int} (h1 : -9223372036854775808 ≤ c) (h2 : c ≤ 9223372036854775807) : ∀ {l : List Lay} (_ : ∀ x ∈ l, OkL x), ∀ t ∈ mk c l, OkT t
  | [], _ => fun t ht => absurd ht (by simp [mk])
  | [x], h => fun t ht => by
    obtain rfl : t = _ := by simpa [mk] using ht
    exact ⟨⟨h1, h2⟩, (h x (by simp)).1, (h x (by simp)).2⟩
  | x :: y :: r, h => fun t ht => by
    rw [mk, List.mem_cons] at ht
    rcases ht with rfl | ht
    · exact ⟨⟨by show (_ : Int) ≤ 0; omega, by show (0 : Int) ≤ _; omega⟩, (h x (by simp)).1, (h x (by simp)).2⟩
    · exact mk_ok h1 h2 (fun z hz => h z (List.mem_cons_of_mem _ hz)) t ht
theorem mk_len (c : Int) : ∀ l : List Lay, (mk c l).length = l.length
  | [] => rfl
  | [_] => rfl
  | x :: y :: r => by rw [mk, List.length_cons, mk_len c (y :: r)]; rfl
theorem text_len {c : Int} (h1 : -9223372036854775808 ≤ c) (h2 : c ≤ 9223372036854775807) {x : Lay} {l : List Lay} (h : ∀ y ∈ x :: l, OkL y) : (textL (x :: l) c).length ≤ 200 * (l.length + 1) := by
  have := rText_len (mk_ok h1 h2 h) (mk c (x :: l)).length (Nat.le_refl _)
  rw [List.take_length, mk_text, mk_len] at this
  exact this

/-- the law's errors -/
structure Wr0 (w W : World) (c n m : Int) (s q : ByteArray) (va vb : Value) : Prop where
  below : Below w.heap.size w W
  tab : Tab W
  a : ∃ i, Err W W.heap.size va [⟨i, n, s.data.toList⟩] c
  b : ∃ i j, Err W W.heap.size vb [⟨j, m, q.data.toList⟩, ⟨i, n, s.data.toList⟩] c
theorem Wr0.below' {w W W' : World} {c n m : Int} {s q : ByteArray} {va vb : Value} (h : Wr0 w W c n m s q va vb) (hb : Below W.heap.size W W') : Wr0 w W' c n m s q va vb := by
  obtain ⟨i, hA⟩ := h.a
  obtain ⟨i', j', hB⟩ := h.b
  exact ⟨h.below.trans (hb.mono h.below.size), h.tab.below hb, ⟨i, (hA.below hb (Nat.le_refl _)).more hb.size⟩, ⟨i', j', (hB.below hb (Nat.le_refl _)).more hb.size⟩⟩
/-- .. and the Fault around the first one -/
structure Wr (w W : World) (c n m : Int) (s q : ByteArray) (va vb : Value) (k : Nat) : Prop extends Wr0 w W c n m s q va vb where
  f : ∃ i, Err W W.heap.size (.iface 41 (.pointer (some ⟨k, 0, none⟩))) [⟨k, n, s.data.toList⟩, ⟨i, n, s.data.toList⟩] c
  cell : W.heap[k]? = some (.cells #[.int .i64 n, .string s, va] 43 (0, 0))
theorem Wr.below' {w W W' : World} {c n m : Int} {s q : ByteArray} {va vb : Value} {k : Nat} (h : Wr w W c n m s q va vb k) (hb : Below W.heap.size W W') : Wr w W' c n m s q va vb k := by
  obtain ⟨i, hF⟩ := h.f
  exact ⟨h.toWr0.below' hb, ⟨i, (hF.below hb (Nat.le_refl _)).more hb.size⟩, (hb.block k (at_lt h.cell)).trans h.cell⟩
theorem Wr0.box {w W : World} {c n m : Int} {s q : ByteArray} {va vb : Value} (h : Wr0 w W c n m s q va vb) : Wr w (W.alloc (.cells #[.int .i64 n, .string s, va] 43)) c n m s q va vb W.heap.size := by
  obtain ⟨i, hA⟩ := h.a
  have := hA.wrap (Nat.le_refl _) n s
  exact ⟨h.below' ((Below.refl _ _).alloc (Nat.le_refl _) _), ⟨i, this.more (by simp)⟩, at_new _ _⟩

section
variable {w W : World} {c n m : Int} {s q : ByteArray} {va vb : Value}
variable (c1 : -9223372036854775808 ≤ c) (c2 : c ≤ 9223372036854775807) (n1 : -9223372036854775808 ≤ n) (n2 : n ≤ 9223372036854775807) (m1 : -9223372036854775808 ≤ m) (m2 : m ≤ 9223372036854775807) (hs : s.size ≤ 100) (hq : q.size ≤ 100)
def tA (c n : Int) (s : ByteArray) : List UInt8 := textL [⟨0, n, s.data.toList⟩] c
def tB (c n m : Int) (s q : ByteArray) : List UInt8 := textL [⟨0, m, q.data.toList⟩, ⟨0, n, s.data.toList⟩] c
include n1 n2 hs in
theorem okA (i : Nat) : OkL ⟨i, n, s.data.toList⟩ := ⟨⟨n1, n2⟩, hs⟩
include c1 c2 n1 n2 hs in
theorem lenA : (tA c n s).length ≤ 200 := text_len c1 c2 (x := ⟨0, n, s.data.toList⟩) (l := []) (fun y hy => by rw [List.mem_singleton] at hy; subst hy; exact okA n1 n2 hs 0)
include c1 c2 n1 n2 hs m1 m2 hq in
theorem lenB : (tB c n m s q).length ≤ 400 := text_len c1 c2 (x := ⟨0, m, q.data.toList⟩) (l := [⟨0, n, s.data.toList⟩]) (fun y hy => by
  simp only [List.mem_cons, List.not_mem_nil, or_false] at hy
  rcases hy with rfl | rfl
  · exact okA m1 m2 hq 0
  · exact okA n1 n2 hs 0)
include c1 c2 n1 n2 hs in
theorem wr_texta (h : Wr0 w W c n m s q va vb) : Calls Tryd.prog 10 #[va] W fun e w' => e = .returned (.string ⟨(tA c n s).toArray⟩) ∧ Wr0 w w' c n m s q va vb := by
  obtain ⟨i, hA⟩ := h.a
  refine (text_calls _ _ _ _ _ (.inr hA) (Nat.le_refl _) h.tab (by simp) ?_ c1 c2 ?_).mono fun _ _ ⟨he, hb⟩ => ⟨he, h.below' hb⟩
  · intro x hx
    rw [List.mem_singleton] at hx; subst hx; exact ⟨n1, n2⟩
  · have := lenA c1 c2 n1 n2 hs; exact Nat.le_trans this (by decide)
include c1 c2 n1 n2 hs m1 m2 hq in
theorem wr_textb (h : Wr0 w W c n m s q va vb) : Calls Tryd.prog 10 #[vb] W fun e w' => e = .returned (.string ⟨(tB c n m s q).toArray⟩) ∧ Wr0 w w' c n m s q va vb := by
  obtain ⟨i, j, hB⟩ := h.b
  refine (text_calls _ _ _ _ _ (.inr hB) (Nat.le_refl _) h.tab (by simp) ?_ c1 c2 ?_).mono fun _ _ ⟨he, hb⟩ => ⟨he, h.below' hb⟩
  · intro x hx
    simp only [List.mem_cons, List.not_mem_nil, or_false] at hx
    rcases hx with rfl | rfl
    · exact ⟨m1, m2⟩
    · exact ⟨n1, n2⟩
  · have := lenB c1 c2 n1 n2 m1 m2 hs hq; exact Nat.le_trans this (by decide)
variable {k : Nat} (h : Wr w W c n m s q va vb k)
include h
theorem wr_unwrap : Calls Tryd.prog 18 #[.pointer (some ⟨k, 0, none⟩)] W fun e w' => e = .returned va ∧ w' = W := unwrap_calls k _ _ _ _ h.cell
theorem wr_ofa : Calls Tryd.prog 8 #[va] W fun e w' => e = .returned (.int .i64 c) ∧ Wr w w' c n m s q va vb k := by
  obtain ⟨i, hA⟩ := h.a
  exact (of_calls _ _ _ _ _ (.inr hA) (Nat.le_refl _) h.tab).mono fun _ _ ⟨he, hb⟩ => ⟨he, h.below' hb⟩
theorem wr_ofb : Calls Tryd.prog 8 #[vb] W fun e w' => e = .returned (.int .i64 c) ∧ Wr w w' c n m s q va vb k := by
  obtain ⟨i, j, hB⟩ := h.b
  exact (of_calls _ _ _ _ _ (.inr hB) (Nat.le_refl _) h.tab).mono fun _ _ ⟨he, hb⟩ => ⟨he, h.below' hb⟩
theorem wr_has (a : Int) : Calls Tryd.prog 11 #[vb, .int .i64 a] W fun e w' => e = .returned (.bool (hasB c a)) ∧ W = w' := by
  obtain ⟨i, j, hB⟩ := h.b
  exact has_calls _ _ _ a _ _ (.inr hB)
theorem wr_line : Calls Tryd.prog 9 #[vb] W fun e w' => e = .returned (.int .i64 (lineOf [⟨0, m, []⟩, ⟨0, n, []⟩])) ∧ Wr w w' c n m s q va vb k := by
  obtain ⟨i, j, hB⟩ := h.b
  exact (line_calls _ _ _ _ _ (.inr hB) (Nat.le_refl _) h.tab (by simp)).mono fun _ _ ⟨he, hb⟩ => ⟨he, h.below' hb⟩
include c1 c2 n1 n2 hs in
theorem wr_error : Calls Tryd.prog 19 #[.pointer (some ⟨k, 0, none⟩)] W fun e w' => e = .returned (.string ⟨(tB c n n s s).toArray⟩) ∧ Wr w w' c n m s q va vb k := by
  obtain ⟨i, hF⟩ := h.f
  refine (error_calls k _ _ _ _ hF (Nat.le_refl _) h.tab (by simp) ?_ c1 c2 ?_).mono fun _ _ ⟨he, hb⟩ => ⟨he, h.below' hb⟩
  · intro x hx
    simp only [List.mem_cons, List.not_mem_nil, or_false] at hx
    rcases hx with rfl | rfl <;> exact ⟨n1, n2⟩
  · have := lenB c1 c2 n1 n2 n1 n2 hs hs; exact Nat.le_trans this (by decide)
/-- wrapped anew, and its text -/
theorem wr_wrap : Wr w (W.alloc (.cells #[.int .i64 n, .string s, va] 43)) c n m s q va vb W.heap.size := h.toWr0.box
include c1 c2 n1 n2 hs in
theorem wr_textf : Calls Tryd.prog 10 #[.iface 41 (.pointer (some ⟨k, 0, none⟩))] W fun e w' => e = .returned (.string ⟨(tB c n n s s).toArray⟩) ∧ Wr w w' c n m s q va vb k := by
  obtain ⟨i, hF⟩ := h.f
  refine (text_calls _ _ _ _ _ (.inr hF) (Nat.le_refl _) h.tab (by simp) ?_ c1 c2 ?_).mono fun _ _ ⟨he, hb⟩ => ⟨he, h.below' hb⟩
  · intro x hx
    simp only [List.mem_cons, List.not_mem_nil, or_false] at hx
    rcases hx with rfl | rfl <;> exact ⟨n1, n2⟩
  · have := lenB c1 c2 n1 n2 n1 n2 hs hs; exact Nat.le_trans this (by decide)
include c1 c2 in
theorem wr_kind : Calls Tryd.prog 20 #[.int .i64 c] W fun e w' => e = .returned (.string ⟨(wordL c).toArray⟩) ∧ Wr w w' c n m s q va vb k :=
  (kind_calls c c1 c2 _ h.tab).mono fun _ _ ⟨he, hb⟩ => ⟨he, h.below' hb⟩
include c1 c2 in
theorem wr_word : Calls Tryd.prog 21 #[.int .i64 c] W fun e w' => e = .returned (.string ⟨(wordL c).toArray⟩) ∧ Wr w w' c n m s q va vb k :=
  (rword_calls c c1 c2 _).mono fun _ _ ⟨he, hb⟩ => ⟨he, h.below' hb⟩
theorem wr_works : Calls Tryd.prog 6 #[] W fun e w' => e = .returned (.bool true) ∧ Wr w w' c n m s q va vb k :=
  (works_calls _ h.tab).mono fun _ _ ⟨he, hb⟩ => ⟨he, h.below' hb⟩
end
/-- the start -/
theorem wr_start (w : World) (hT : Tab w) (c n m : Int) (s q : ByteArray) :
    Wr0 w ((w.alloc (.cells #[.int .i64 n, .string s, .iface 46 (.int .i64 c)] 43)).alloc (.cells #[.int .i64 m, .string q, .iface 41 (.pointer (some ⟨w.heap.size, 0, none⟩))] 43)) c n m s q
      (.iface 41 (.pointer (some ⟨w.heap.size, 0, none⟩))) (.iface 41 (.pointer (some ⟨w.heap.size + 1, 0, none⟩))) := by
  have e1 := Err.wrap (w := w) (N := 0) (v := .iface 46 (.int .i64 c)) (l := []) (c := c) rfl (Nat.zero_le _) n s
  generalize hw1 : w.alloc _ = w1 at e1 ⊢
  have s1 : w1.heap.size = w.heap.size + 1 := by rw [← hw1]; simp
  have b1 : Below w.heap.size w w1 := by rw [← hw1]; exact (Below.refl _ _).alloc (Nat.le_refl _) _
  have e2 := e1.wrap (by omega) m q
  generalize hw2 : w1.alloc _ = w2 at e2 ⊢
  have s2 : w2.heap.size = w.heap.size + 1 + 1 := by rw [← hw2]; simp [s1]
  have b2 : Below w1.heap.size w1 w2 := by rw [← hw2]; exact (Below.refl _ _).alloc (Nat.le_refl _) _
  rw [s1] at e2
  have b12 := b1.trans (b2.mono b1.size)
  exact ⟨b12, hT.below b12, ⟨_, (e1.below b2 (by omega)).more (by omega)⟩, ⟨_, _, e2.more (by omega)⟩⟩
end Go.Proofs.YtpjjfcgebgejaaaDoor.Flt

/-
  Layer 14 (brk): Read.
-/
import Derived.Test.YtiblmhjlngcidaaBrkBehind
namespace Go.Proofs.Ytiblmhjlngcidaa.Brk
open Go.RowKit Go.Proofs.Ytiblmhjlngcidaa.Digit Go.Proofs.Ytiblmhjlngcidaa.Own

theorem mine_nil (w : World) (B : Nat) : Mine w B (.slice none 0 0) [] := World.ownsRow_nil _ _ _ _
theorem cut_drop (m : List UInt8) (k : Nat) (hk : k ≤ m.length) (W : World) :
    (Instr.sliceAt 9 (.string ⟨m.toArray⟩) (some (.int .i64 k)) none none).run Try.prog W = .ok (.string ⟨(m.drop k).toArray⟩) W := by
  have hz : (⟨m.toArray⟩ : ByteArray).size = m.length := List.size_toArray ..
  rw [run_sliceAt_string W 9 _ _ _ _ Try.underlying9, run_slice_string_from_if W 9 _ .i64 k Try.underlying9, if_pos ⟨by omega, by rw [hz]; omega⟩]
  have e : (⟨m.toArray⟩ : ByteArray).extract k m.length = ⟨(m.drop k).toArray⟩ := by
    apply ByteArray.ext; simp [List.extract_eq_take_drop]
    exact List.take_of_length_le (by simp)
  rw [hz, Int.toNat_natCast, e]
def RPost (s : List UInt8) (w : World) (e : Ending) (w' : World) : Prop := ∃ v, e = .returned (.tuple #[v, .int .i64 (rC s)]) ∧ Mine w' w.heap.size v (rV s) ∧ Below w.heap.size w w'
/-- steps read, and what is left -/
structure RdAt (S : List UInt8) (w wr : World) (acc : List Op) (m : List UInt8) (c : Nat) (v : Value) : Prop where
  own : Mine wr w.heap.size v acc
  below : Below w.heap.size w wr
  bd : Bd acc c
  len : c + m.length ≤ S.length
  fit : S.length ≤ 255
  left : rdF acc m = rdF [] S
theorem bd_each {acc : List Op} {c : Nat} (h : Bd acc c) (hc : c ≤ 255) : ∀ y ∈ acc, y.s.length ≤ 255 ∧ 0 ≤ y.n ∧ y.n ≤ 25245 := by
  obtain ⟨h1, h2, h3, h4⟩ := h
  have key : ∀ l : List Op, (∀ x ∈ l, Ok x) → 0 ≤ cst l ∧ ∀ y ∈ l, y.s.length ≤ (byt l).length ∧ y.n ≤ cst l := by
    intro l
    induction l with
    | nil => intro _; exact ⟨by simp [cst], fun y hy => by simp at hy⟩
    | cons x l ih =>
      intro hl
      obtain ⟨i1, i2⟩ := ih fun y hy => hl y (List.mem_cons_of_mem _ hy)
      have hx := (hl x (by simp)).pos
      refine ⟨by simp only [cst]; omega, fun y hy => ?_⟩
      simp only [cst, byt, List.length_append]
      rcases List.mem_cons.1 hy with rfl | hy
      · omega
      · have := i2 y hy; omega
  intro y hy
  have := (key acc h4).2 y hy
  have := (h4 y hy).pos
  omega
theorem RdAt.step {S : List UInt8} {w wr w5 : World} {acc : List Op} {m : List UInt8} {c : Nat} {v v' : Value} (h : RdAt S w wr acc m c v) (h0 : (one m).2 ≠ 0)
    (ho : Mine w5 w.heap.size v' (bhd acc (one m).1)) (hb : Below w.heap.size wr w5) : RdAt S w w5 (bhd acc (one m).1) (m.drop (one m).2) (c + (one m).2) v' := by
  obtain ⟨s1, s2, s3⟩ := one_yes h0
  have hl := h.len
  refine ⟨ho, h.below.trans hb, h.bd.step s1 s2, ?_, h.fit, ?_⟩
  · rw [List.length_drop]; omega
  · rw [← h.left, rdF_yes h0]
theorem RdAt.done {S : List UInt8} {w wr : World} {acc : List Op} {c : Nat} {v : Value} (h : RdAt S w wr acc [] c v) : RPost S w (.returned (.tuple #[v, .int .i64 0])) wr := by
  have e := h.left
  rw [rdF_nil] at e
  obtain ⟨e1, e2⟩ := r_some (by have := h.fit; omega) e.symm
  exact ⟨v, by rw [e1], by rw [e2]; exact h.own, h.below⟩
theorem RdAt.bad {S : List UInt8} {w wr w' : World} {acc : List Op} {m : List UInt8} {c : Nat} {v : Value} (h : RdAt S w wr acc m c v) (hm : m ≠ []) (h0 : (one m).2 = 0) (hb : Below w.heap.size w w') : RPost S w (.returned (.tuple #[.slice none 0 0, .int .i64 3])) w' := by
  have e := h.left
  rw [rdF_no hm h0] at e
  obtain ⟨e1, e2⟩ := r_none (by have := h.fit; omega) e.symm
  exact ⟨_, by rw [e1], by rw [e2]; exact mine_nil _ _, hb⟩

set_option maxRecDepth 100000 in
set_option maxHeartbeats 4000000 in
theorem read_calls (s : List UInt8) (hs : s.length ≤ 1099511627776) (w : World) :
    Calls Try.prog 7 #[.string ⟨s.toArray⟩] w (RPost s w) := by
  by_cases hbig : 255 < s.length
  · obtain ⟨e1, e2⟩ := r_big hbig
    have H := Lib.hid (And.intro e1 e2)
    have q : (255 : Int) < (s.length : Int) := by omega
    clear e1 e2 hbig
    go_enter Try.func7, Try.ntmps7
    go_wp2_with fail
    go_ret2
    exact ⟨_, by rw [H.out.1]; rfl, by rw [H.out.2]; exact mine_nil _ _, Below.refl _ _⟩
  · have q : ¬ (255 : Int) < (s.length : Int) := by omega
    have hs2 : s.length ≤ 255 := by omega
    clear hbig
    go_enter Try.func7, Try.ntmps7
    go_wp2_with fail
    go_loopw [0, 4] (fun s' v wr => ∃ (m : List UInt8) (acc : List Op) (c : Nat), s' = .string ⟨m.toArray⟩ ∧ RdAt s w wr acc m c v) (fun s' _ _ => lenOf s')
    case atStart => exact ⟨s, [], 0, rfl, mine_nil _ _, Below.refl _ _, Bd.nil, by omega, hs2, rfl⟩
    case round =>
      obtain ⟨m, acc, c, rfl, C⟩ := hrel
      by_cases h0 : m = []
      · subst h0
        have HC := Lib.hid C
        clear C
        go_wp2_with fail
        go_ret2
        exact HC.out.done
      · have hi : m.isEmpty = false := by simpa using h0
        have hpos : 0 < m.length := List.length_pos_iff.2 h0
        have hml : m.length ≤ 255 := by have := C.len; have := C.fit; omega
        have hz : (⟨m.toArray⟩ : ByteArray).size = m.length := List.size_toArray ..
        have HF := Lib.hid (first_calls ⟨m.toArray⟩ (by omega) (by omega))
        rw [show (⟨m.toArray⟩ : ByteArray).data.toList = m from rfl] at HF
        have HM := Lib.hid h0
        have HC := Lib.hid C
        have hbs := C.below.size
        clear hz h0 C
        obtain ⟨r, hr⟩ : ∃ r, one m = r := ⟨_, rfl⟩
        rw [hr] at HF
        obtain ⟨x, k⟩ := r
        have HR := Lib.hid hr
        unfold oneV at HF
        simp only at HF
        clear hr
        by_cases hk : k = 0
        · subst hk
          go_wp2_with (go_at_call 16; refine (HF.out _).mono ?_; rintro e w5 ⟨rfl, hb⟩)
          go_ret2
          exact HC.out.bad HM.out (by rw [HR.out]) (HC.out.below.trans (hb.mono hbs))
        · obtain ⟨s1, s2, s3⟩ := one_yes (l := m) (by rw [HR.out]; exact hk)
          rw [HR.out] at s1 s2 s3
          simp only at s1 s2 s3
          have hk0 : ((k : Int) == 0) = false := by simpa using hk
          have hcut := cut_drop m k s3
          have HO := Lib.hid (op_calls x s1.ok)
          have HS := Lib.hid s1
          clear s1
          go_wp2_with fail
          refine (HF.out _).mono ?_
          rintro e w5 ⟨rfl, hb5⟩
          have B5 := Lib.hid hb5
          have h5 := hb5.size
          clear hb5
          go_wp2_with fail
          refine (HO.out _).mono ?_
          rintro e w6 ⟨rfl, hb6⟩
          have B6 := Lib.hid (B5.out.trans (hb6.mono h5))
          clear hb6
          have h6 := B6.out.size
          go_wp2_with fail
          refine (behind_calls acc x (by have := HC.out.bd.len; have := HC.out.len; have := HC.out.fit; omega) w.heap.size _ w6 (mine_below HC.out.own B6.out) (by omega) (fun y hy => by
            have := bd_each HC.out.bd (by have := HC.out.len; have := HC.out.fit; omega) y hy; omega) (by have := HS.out.cst; omega) (by have := HS.out.cst; have := HS.out.ok.pos; omega)).mono ?_
          rintro e w7 ⟨v7, rfl, ho7, hb7⟩
          have C7 := Lib.hid (HC.out.step (by rw [HR.out]; exact hk) (by rw [HR.out]; exact ho7) ((B6.out.mono hbs).trans hb7))
          rw [HR.out] at C7
          clear ho7 hb7
          go_wp2_with fail
          go_roundw
          case rel => exact ⟨_, _, _, rfl, C7.out⟩
          case measure => show (m.drop k).toArray.size < m.toArray.size; rw [List.size_toArray, List.size_toArray, List.length_drop]; omega
end Go.Proofs.Ytiblmhjlngcidaa.Brk

/-
Layer 14 (brk): Read.
Layer 19 (line): New, walked.
Layer 19 (line): the document's own Same, walked.
Layer 19 (line): the laws' sample, walked.
What came in, with how much memory its reading takes at most (the form's own reach): slices of structs, fields, strings.
Layer 14 (brk): ops that came in, out of their readings.
Layer 19 (line): acts that came in, out of their readings: structs that hold a slice of ops.
Layer 14 (brk): what the document's own one asks, number by number.
Layer 14 (brk): the document's own one, walked.
Layer 14 (brk): how much a piece of steps sends and waits, in plain Lean.
Layer 14 (brk): the document's own Bytes, walked.
-/
import Derived.Test.YtnkhdpenmekhdaaWPack6
import Derived.Deep.QuietTactic
import Derived.BigQuiet
import Derived.SizedLaws
import Derived.Deep.DeepCutAuto
section
namespace Go.Proofs.Ytnkhdpenmekhdaa.Brk
open Go.RowKit Go.Proofs.Ytnkhdpenmekhdaa.Digit Go.Proofs.Ytnkhdpenmekhdaa.Own

theorem mine_nil (w : World) (B : Nat) : Mine w B (.slice none 0 0) [] := World.ownsRow_nil _ _ _ _
theorem cut_drop (m : List UInt8) (k : Nat) (hk : k ≤ m.length) (W : World) :
    (Instr.sliceAt 9 (.string ⟨m.toArray⟩) (some (.int .i64 k)) none none).run Try.prog W = .ok (.string ⟨(m.drop k).toArray⟩) W := by
  have hz : (⟨m.toArray⟩ : ByteArray).size = m.length := List.size_toArray ..
  rw [run_sliceAt_string W 9 _ _ _ _ Try.underlying9, run_slice_string_from_if W 9 _ .i64 k Try.underlying9, if_pos ⟨by omega, by rw [hz]; omega⟩]
  have e : (⟨m.toArray⟩ : ByteArray).extract k m.length = ⟨(m.drop k).toArray⟩ := by
    apply ByteArray.ext; simp [List.extract_eq_take_drop]
    exact List.take_of_length_le (by simp)
  rw [hz, Int.toNat_natCast, e]
def RPost (s : List UInt8) (w : World) (e : Ending) (w' : World) : Prop := ∃ v, e = .returned (.tuple #[v, .int .i64 (rC s)]) ∧ Mine w' w.heap.size v (rV s) ∧ Below w.heap.size w w'
/-- steps read, and what is left -/
structure RdAt (S : List UInt8) (w wr : World) (acc : List Op) (m : List UInt8) (c : Nat) (v : Value) : Prop where
  own : Mine wr w.heap.size v acc
  below : Below w.heap.size w wr
  bd : Bd acc c
  len : c + m.length ≤ S.length
  fit : S.length ≤ 255
  left : rdF acc m = rdF [] S
theorem bd_each {acc : List Op} {c : Nat} (h : Bd acc c) (hc : c ≤ 255) : ∀ y ∈ acc, y.s.length ≤ 255 ∧ 0 ≤ y.n ∧ y.n ≤ 25245 := by
  obtain ⟨h1, h2, h3, h4⟩ := h
  have key : ∀ l : List Op, (∀ x ∈ l, Ok x) → 0 ≤ cst l ∧ ∀ y ∈ l, y.s.length ≤ (byt l).length ∧ y.n ≤ cst l := by
    intro l
    induction l with
    | nil => intro _; exact ⟨by simp [cst], fun y hy => by simp at hy⟩
    | cons x l ih =>
      intro hl
      obtain ⟨i1, i2⟩ := ih fun y hy => hl y (List.mem_cons_of_mem _ hy)
      have hx := (hl x (by simp)).pos
      refine ⟨by simp only [cst]; omega, fun y hy => ?_⟩
      simp only [cst, byt, List.length_append]
      rcases List.mem_cons.1 hy with rfl | hy
      · omega
      · have := i2 y hy; omega
  intro y hy
  have := (key acc h4).2 y hy
  have := (h4 y hy).pos
  omega
theorem RdAt.step {S : List UInt8} {w wr w5 : World} {acc : List Op} {m : List UInt8} {c : Nat} {v v' : Value} (h : RdAt S w wr acc m c v) (h0 : (one m).2 ≠ 0)
    (ho : Mine w5 w.heap.size v' (bhd acc (one m).1)) (hb : Below w.heap.size wr w5) : RdAt S w w5 (bhd acc (one m).1) (m.drop (one m).2) (c + (one m).2) v' := by
  obtain ⟨s1, s2, s3⟩ := one_yes h0
  have hl := h.len
  refine ⟨ho, h.below.trans hb, h.bd.step s1 s2, ?_, h.fit, ?_⟩
  · rw [List.length_drop]; omega
  · rw [← h.left, rdF_yes h0]
theorem RdAt.done {S : List UInt8} {w wr : World} {acc : List Op} {c : Nat} {v : Value} (h : RdAt S w wr acc [] c v) : RPost S w (.returned (.tuple #[v, .int .i64 0])) wr := by
  have e := h.left
  rw [rdF_nil] at e
  obtain ⟨e1, e2⟩ := r_some (by have := h.fit; omega) e.symm
  exact ⟨v, by rw [e1], by rw [e2]; exact h.own, h.below⟩
theorem RdAt.bad {S : List UInt8} {w wr w' : World} {acc : List Op} {m : List UInt8} {c : Nat} {v : Value} (h : RdAt S w wr acc m c v) (hm : m ≠ []) (h0 : (one m).2 = 0) (hb : Below w.heap.size w w') : RPost S w (.returned (.tuple #[.slice none 0 0, .int .i64 3])) w' := by
  have e := h.left
  rw [rdF_no hm h0] at e
  obtain ⟨e1, e2⟩ := r_none (by have := h.fit; omega) e.symm
  exact ⟨_, by rw [e1], by rw [e2]; exact mine_nil _ _, hb⟩

set_option maxRecDepth 100000 in
set_option maxHeartbeats 4000000 in
theorem read_calls (s : List UInt8) (hs : s.length ≤ 1099511627776) (w : World) :
    Calls Try.prog 20 #[.string ⟨s.toArray⟩] w (RPost s w) := by
  by_cases hbig : 255 < s.length
  · obtain ⟨e1, e2⟩ := r_big hbig
    have H := Lib.hid (And.intro e1 e2)
    have q : (255 : Int) < (s.length : Int) := by omega
    clear e1 e2 hbig
    go_enter Try.func20, Try.ntmps20
    go_wp2_with fail
    go_ret2
    exact ⟨_, by rw [H.out.1]; rfl, by rw [H.out.2]; exact mine_nil _ _, Below.refl _ _⟩
  · have q : ¬ (255 : Int) < (s.length : Int) := by omega
    have hs2 : s.length ≤ 255 := by omega
    clear hbig
    go_enter Try.func20, Try.ntmps20
    go_wp2_with fail
    go_loopw [0, 4] (fun s' v wr => ∃ (m : List UInt8) (acc : List Op) (c : Nat), s' = .string ⟨m.toArray⟩ ∧ RdAt s w wr acc m c v) (fun s' _ _ => lenOf s')
    case atStart => exact ⟨s, [], 0, rfl, mine_nil _ _, Below.refl _ _, Bd.nil, by omega, hs2, rfl⟩
    case round =>
      obtain ⟨m, acc, c, rfl, C⟩ := hrel
      by_cases h0 : m = []
      · subst h0
        have HC := Lib.hid C
        clear C
        go_wp2_with fail
        go_ret2
        exact HC.out.done
      · have hi : m.isEmpty = false := by simpa using h0
        have hpos : 0 < m.length := List.length_pos_iff.2 h0
        have hml : m.length ≤ 255 := by have := C.len; have := C.fit; omega
        have hz : (⟨m.toArray⟩ : ByteArray).size = m.length := List.size_toArray ..
        have HF := Lib.hid (first_calls ⟨m.toArray⟩ (by omega) (by omega))
        rw [show (⟨m.toArray⟩ : ByteArray).data.toList = m from rfl] at HF
        have HM := Lib.hid h0
        have HC := Lib.hid C
        have hbs := C.below.size
        clear hz h0 C
        obtain ⟨r, hr⟩ : ∃ r, one m = r := ⟨_, rfl⟩
        rw [hr] at HF
        obtain ⟨x, k⟩ := r
        have HR := Lib.hid hr
        unfold oneV at HF
        simp only at HF
        clear hr
        by_cases hk : k = 0
        · subst hk
          go_wp2_with (go_at_call 39; refine (HF.out _).mono ?_; rintro e w5 ⟨rfl, hb⟩)
          go_ret2
          exact HC.out.bad HM.out (by rw [HR.out]) (HC.out.below.trans (hb.mono hbs))
        · obtain ⟨s1, s2, s3⟩ := one_yes (l := m) (by rw [HR.out]; exact hk)
          rw [HR.out] at s1 s2 s3
          simp only at s1 s2 s3
          have hk0 : ((k : Int) == 0) = false := by simpa using hk
          have hcut := cut_drop m k s3
          have HO := Lib.hid (op_calls x s1.ok)
          have HS := Lib.hid s1
          clear s1
          go_wp2_with fail
          refine (HF.out _).mono ?_
          rintro e w5 ⟨rfl, hb5⟩
          have B5 := Lib.hid hb5
          have h5 := hb5.size
          clear hb5
          go_wp2_with fail
          refine (HO.out _).mono ?_
          rintro e w6 ⟨rfl, hb6⟩
          have B6 := Lib.hid (B5.out.trans (hb6.mono h5))
          clear hb6
          have h6 := B6.out.size
          go_wp2_with fail
          refine (behind_calls acc x (by have := HC.out.bd.len; have := HC.out.len; have := HC.out.fit; omega) w.heap.size _ w6 (mine_below HC.out.own B6.out) (by omega) (fun y hy => by
            have := bd_each HC.out.bd (by have := HC.out.len; have := HC.out.fit; omega) y hy; omega) (by have := HS.out.cst; omega) (by have := HS.out.cst; have := HS.out.ok.pos; omega)).mono ?_
          rintro e w7 ⟨v7, rfl, ho7, hb7⟩
          have C7 := Lib.hid (HC.out.step (by rw [HR.out]; exact hk) (by rw [HR.out]; exact ho7) ((B6.out.mono hbs).trans hb7))
          rw [HR.out] at C7
          clear ho7 hb7
          go_wp2_with fail
          go_roundw
          case rel => exact ⟨_, _, _, rfl, C7.out⟩
          case measure => show (m.drop k).toArray.size < m.toArray.size; rw [List.size_toArray, List.size_toArray, List.length_drop]; omega
end Go.Proofs.Ytnkhdpenmekhdaa.Brk
end

section
namespace Go.Proofs.Ytnkhdpenmekhdaa.Lin
open Go.RowKit Go.Proofs.Ytnkhdpenmekhdaa.Own Go.Proofs.Ytnkhdpenmekhdaa.Brk Go.Proofs.Ytnkhdpenmekhdaa.Calc Go.Proofs.Ytnkhdpenmekhdaa.Tree Go.Proofs.Ytnkhdpenmekhdaa.Run Go.Proofs.Ytnkhdpenmekhdaa.Bkf

set_option maxRecDepth 100000 in
set_option maxHeartbeats 2000000 in
theorem read_any (s : List UInt8) (hs : s.length ≤ 9223372036854775807) (w : World) : Calls Try.prog 20 #[.string ⟨s.toArray⟩] w (RPost s w) := by
  by_cases hbig : 255 < s.length
  · obtain ⟨e1, e2⟩ := r_big hbig
    have H := Lib.hid (And.intro e1 e2)
    have q : (255 : Int) < (s.length : Int) := by omega
    clear e1 e2 hbig
    go_enter Try.func20, Try.ntmps20
    go_wp2_with fail
    go_ret2
    exact ⟨_, by rw [H.out.1]; rfl, by rw [H.out.2]; exact Brk.mine_nil _ _, Below.refl _ _⟩
  · exact Brk.read_calls s (by omega) w
/-- a line that was just made -/
def mk (b c j : Int) (F : List Op) : Ln := ⟨b, c, j, F, 0, 0, 0, [], 0, 0, []⟩
/-- the code of New -/
noncomputable def newC (b c j : Int) (s : List UInt8) : Int := if okR b c j then rC s else 2
/-- a console as it comes in -/
def conV (v0 v1 v2 v3 v4 v5 : Value) (b c j : Int) (s : List UInt8) : Value := .agg #[v0, v1, v2, v3, v4, v5, .int .i64 b, .int .i64 c, .int .i64 j, .string ⟨s.toArray⟩]
/-- what New answers and leaves -/
def NewL (b c j : Int) (s : List UInt8) (w : World) (e : Ending) (w' : World) : Prop :=
  (newC b c j s ≠ 0 ∧ e = .returned (.tuple #[.pointer none, .int .i64 (newC b c j s)]) ∧ Below w.heap.size w w') ∨
  (newC b c j s = 0 ∧ ∃ k S, e = .returned (.tuple #[.pointer (some ⟨k, 0, none⟩), .int .i64 0]) ∧ Mem w' k S (mk b c j (rV s)) ∧ (∀ i, S i → w.heap.size ≤ i) ∧ Below w.heap.size w w')
theorem good_mk {b c j : Int} {s : List UInt8} (h : okR b c j) (hs : rC s = 0) : Good (mk b c j (rV s)) :=
  ⟨h, ⟨Int.le_refl _, by show (0 : Int) ≤ 5; omega⟩, by simp [mk], by have := (first_good hs).1; show (rV s).length ≤ 1000; omega, (first_good hs).2, fun hg => by rcases hg with e | e <;> simp [mk] at e, fun e => by simp [mk] at e⟩
theorem mine_keeps {w : World} {B : Nat} {v : Value} {L : List Op} {S : Nat → Prop} (h : Mine w B v L) (hS : ∀ g, v.ownBlock = some g → ¬ S g) : ∃ p c, v = .slice p L.length c ∧ ∀ W, Out S w W → Ops W L p c := by
  obtain ⟨p, c, rfl, _⟩ := h.ops
  refine ⟨p, c, rfl, fun W ho => ?_⟩
  obtain ⟨p', c', e, h4⟩ := Mine.ops (show Mine W B _ L from own_out h ho fun k hk => hS k hk)
  simp at e
  rw [e.1, e.2]
  exact h4
set_option maxRecDepth 100000 in
set_option maxHeartbeats 4000000 in
theorem new_line (v0 v1 v2 v3 v4 v5 : Value) (b c j : Int) (s : List UInt8) (hs : s.length ≤ 9223372036854775807) (w : World) :
    Calls Try.prog 5 #[conV v0 v1 v2 v3 v4 v5 b c j s] w (NewL b c j s w) := by
  unfold conV
  have HB := at_new w (.cells #[v0, v1, v2, v3, v4, v5, .int .i64 b, .int .i64 c, .int .i64 j, .string ⟨s.toArray⟩] 23 (0, 0))
  have hA := (Below.refl w.heap.size w).alloc (Nat.le_refl _) (.cells #[v0, v1, v2, v3, v4, v5, .int .i64 b, .int .i64 c, .int .i64 j, .string ⟨s.toArray⟩] 23 (0, 0))
  have HX := Lib.hid HB
  have HA := Lib.hid hA
  have HSZ : Hid ((w.alloc (.cells #[v0, v1, v2, v3, v4, v5, .int .i64 b, .int .i64 c, .int .i64 j, .string ⟨s.toArray⟩] 23 (0, 0))).heap.size = w.heap.size + 1) := Lib.hid (by simp)
  clear HB hA
  go_enter Try.func5, Try.ntmps5
  go_wp2_with fail
  generalize w.alloc (.cells #[v0, v1, v2, v3, v4, v5, .int .i64 b, .int .i64 c, .int .i64 j, .string ⟨s.toArray⟩] 23) = W at *
  by_cases hok : okR b c j
  · have HOK := Lib.hid hok
    have HCO : Hid (newC b c j s = rC s) := Lib.hid (by unfold newC; rw [if_pos hok])
    clear hok
    refine (Bkf.new_yes b c j HOK.out W).mono ?_
    rintro e w1 ⟨kw, rfl, hW, hkw, hB1⟩
    have c9 : w1.cell? ⟨w.heap.size, 9, none⟩ = some (.string ⟨s.toArray⟩) := at_cell ((hB1.block _ (at_lt HX.out)).trans HX.out) 9
    have HW1 := Lib.hid hW
    have HKW := Lib.hid hkw
    have HB1 := Lib.hid hB1
    clear hW hkw hB1
    go_wp2_with fail
    refine (read_any s hs w1).mono ?_
    rintro e w2 ⟨v, rfl, hM, hB2⟩
    obtain ⟨cd, hcd⟩ : ∃ cd, rC s = cd := ⟨_, rfl⟩
    rw [hcd]
    have HCD := Lib.hid hcd
    have HB2 := Lib.hid hB2
    have hkw1 := at_lt HW1.out
    obtain ⟨p, cp, rfl, hF⟩ := mine_keeps (S := fun i => i = kw ∨ i = w2.heap.size) hM (fun g hg => by
      have := own_lt hM hg
      rintro (e | e) <;> omega)
    have HF := Lib.hid hF
    have hb := HKW.out
    have hz := HSZ.out
    have hs1 := HB1.out.size
    have hs2 := hB2.size
    clear hM hB2 hF hcd c9
    by_cases h0 : cd = 0
    · subst h0
      obtain ⟨m, hm⟩ : ∃ m, (rV s).length = m := ⟨_, rfl⟩
      have HM := Lib.hid hm
      rw [hm]
      clear hm
      go_wp2_with fail
      go_ret2
      refine .inr ⟨HCO.out.trans HCD.out, w2.heap.size, (fun i => i = kw ∨ i = w2.heap.size), rfl, ⟨kw, p, cp, .pointer none, ?_⟩, ?_, ?_⟩
      · have hWt : IsW w2 kw b c j 1 := HW1.out.below HB2.out
        refine ⟨?_, .inr rfl, .inl rfl, by omega, at_old _ _ hWt, ?_, ?_, ?_, good_mk HOK.out HCD.out⟩
        · rw [show (mk b c j (rV s)).F.length = m from HM.out]
          exact at_new w2 _
        · rintro i (rfl | rfl)
          · simp; omega
          · simp
        · intro W' hW'
          exact HF.out W' (Out.trans (S' := fun i => i = kw ∨ i = w2.heap.size) ((Out.refl _ w2).alloc _) hW' fun _ _ h => h)
        · intro hg
          rcases hg with e | e <;> simp [mk] at e
      · rintro i (rfl | rfl) <;> omega
      · exact (((HA.out.trans (HB1.out.mono (by omega))).trans (HB2.out.mono (by omega))).alloc (by omega) _)
    · have h0b : (cd == 0) = false := by simpa using h0
      have H0 := Lib.hid h0
      clear h0
      go_wp2_with fail
      go_ret2
      exact .inl ⟨by rw [HCO.out, HCD.out]; exact H0.out, by rw [HCO.out, HCD.out]; rfl, (HA.out.trans (HB1.out.mono (by omega))).trans (HB2.out.mono (by omega))⟩
  · have HNO : Hid (newC b c j s = 2) := Lib.hid (by unfold newC; rw [if_neg hok])
    have HOK := Lib.hid hok
    clear hok
    refine (Bkf.new_no b c j HOK.out W).mono ?_
    rintro e w1 ⟨rfl, hB1⟩
    have HB1 := Lib.hid hB1
    clear hB1
    go_wp2_with fail
    go_ret2
    exact .inl ⟨by rw [HNO.out]; omega, by rw [HNO.out]; rfl, HA.out.trans (HB1.out.mono (by have := HSZ.out; omega))⟩
end Go.Proofs.Ytnkhdpenmekhdaa.Lin
end

section
namespace Go.Proofs.Ytnkhdpenmekhdaa.Lin
open Go.RowKit Go.Proofs.Ytnkhdpenmekhdaa.Own Go.Proofs.Ytnkhdpenmekhdaa.Brk Go.Proofs.Ytnkhdpenmekhdaa.Calc Go.Proofs.Ytnkhdpenmekhdaa.Tree Go.Proofs.Ytnkhdpenmekhdaa.Run Go.Proofs.Ytnkhdpenmekhdaa.Bkf

set_option maxRecDepth 100000 in
set_option maxHeartbeats 4000000 in
/-- two slices that hold the same -/
theorem same_outs (xs : List Ou) (n : Nat) (hn : xs.length = n) (p q : Option Addr) (c d : Nat) (w : World) (h1 : Outs w xs p c) (h2 : Outs w xs q d) :
    Calls Try.prog 25 #[.slice p n c, .slice q n d] w fun e w' => e = .returned (.bool true) ∧ Below w.heap.size w w' := by
  subst hn
  have hc1 := h1.cap
  have hm1 := h1.max
  unfold maxLen at hm1
  have q2 : (xs.length : Int) ≤ 9223372036854775807 := by omega
  have H1 := Lib.hid h1
  have H2 := Lib.hid h2
  clear h1 h2
  go_enter Try.func25, Try.ntmps25
  go_wp2_with fail
  go_loopw [5] (fun i wr => ∃ k m : Nat, k ≤ xs.length ∧ i = .int .i64 k ∧ wr = w.drewN m) (fun i _ => xs.length - (Go.RowKit.intOf i).toNat)
  case atStart => exact ⟨0, 0, by omega, rfl, rfl⟩
  case round =>
    obtain ⟨k, m, hk, rfl, rfl⟩ := hrel
    rcases Nat.lt_or_eq_of_le hk with hlt | rfl
    · rcases H1.out.cells with h0 | ⟨b, o, rfl, hb, hc⟩
      · rw [h0] at hlt; simp at hlt
      · rcases H2.out.cells with h0 | ⟨b', o', rfl, hb', hc'⟩
        · rw [h0] at hlt; simp at hlt
        · obtain ⟨c0, c1⟩ := hc k hlt
          obtain ⟨d0, d1⟩ := hc' k hlt
          have q1 : (k : Int) < (xs.length : Int) := by omega
          generalize xs[k] = x at *
          clear hc hc'
          go_wp2_with fail
          go_quiet (fail)
          go_wp2_with fail
          go_roundw
          case rel => exact ⟨k + 1, _, by omega, by go_num, rfl⟩
          case measure => simp [Go.RowKit.intOf]; omega
    · go_wp2_with fail
      go_ret
      exact ⟨rfl, Run.below_drew (Below.refl _ _)⟩
end Go.Proofs.Ytnkhdpenmekhdaa.Lin
end

section
namespace Go.Proofs.Ytnkhdpenmekhdaa.Lin
open Go.RowKit Go.Proofs.Ytnkhdpenmekhdaa.Own Go.Proofs.Ytnkhdpenmekhdaa.Brk Go.Proofs.Ytnkhdpenmekhdaa.Calc Go.Proofs.Ytnkhdpenmekhdaa.Tree Go.Proofs.Ytnkhdpenmekhdaa.Run Go.Proofs.Ytnkhdpenmekhdaa.Bkf

def exF : List Op := [⟨1, [105], 0⟩, ⟨2, [], 1⟩]
theorem ex_is : rC [105, 92, 100] = 0 ∧ rV [105, 92, 100] = exF := by
  refine r_some (by decide) ?_
  have s1 : rdF [] [105, 92, 100] = rdF [⟨1, [105], 0⟩] [92, 100] := rdF_step (t := [105]) (one_plain _ (by decide) (by decide) (by decide)) (by simp)
  have s2 : rdF [⟨1, [105], 0⟩] [92, 100] = rdF exF [] := rdF_step (t := wsg 1) (one_wsg (by decide) (by decide) _) (wsg_ne _)
  rw [s1, s2, rdF_nil]
theorem ey_is : rC [92, 113] = 3 := by
  refine (r_none (by decide) (rdF_no (by simp) ?_)).1
  rw [one_esc]
  unfold esc
  rw [if_neg (by decide), if_neg (by decide), if_neg (by decide), if_neg (by decide), if_neg (by decide), if_neg (by decide), if_neg (by decide), if_neg (by decide)]
  rfl
/-- a line of the call's own, and the world -/
structure Wk (w W : World) (k : Nat) (S : Nat → Prop) (x : Ln) : Prop where
  mem : Mem W k S x
  base : ∀ i, S i → w.heap.size ≤ i
  below : Below w.heap.size w W
theorem Wk.keep {w W W' : World} {k : Nat} {S : Nat → Prop} {x : Ln} (h : Wk w W k S x) (hb : Below W.heap.size W W') : Wk w W' k S x := ⟨h.mem.below hb, h.base, h.below.trans (hb.mono h.below.size)⟩
theorem Wk.step {w W W' : World} {k : Nat} {S S' : Nat → Prop} {x y : Ln} (h : Wk w W k S x) (hm : Mem W' k S' y) (hs : Step S W S' W') : Wk w W' k S' y :=
  ⟨hm, fun i hi => by
    rcases hs.new i hi with h' | h'
    · exact h.base i h'
    · have := h.below.size; omega, h.below.trans (hs.base h.below.size h.base)⟩
theorem Wk.does {w W W' : World} {k : Nat} {S : Nat → Prop} {x y : Ln} (h : Wk w W k S x) (hd : Does W k S y W') : ∃ S', Wk w W' k S' y ∧ Step S W S' W' := by
  obtain ⟨S', h1, h2⟩ := hd
  exact ⟨S', h.step h1 h2, h2⟩
theorem Wk.gives {w W W' : World} {k : Nat} {S : Nat → Prop} {x y : Ln} {O : List Ou} {e : Ending} (h : Wk w W k S x) (hd : Gives W k S y O e W') {y' : Ln} {O' : List Ou} (hy : y = y') (hO : O = O') : ∃ S' p c, e = .returned (.slice p O'.length c) ∧ Wk w W' k S' y' ∧ Step S W S' W' ∧ ∀ V, Out S' W' V → Outs V O' p c := by
  subst hy; subst hO
  obtain ⟨S', p, c, rfl, h1, h2, h3⟩ := hd
  exact ⟨S', p, c, rfl, h.step h1 h2, h2, h3⟩
theorem ops_one (w : World) (x : Op) (g : Nat) (hg : g = w.heap.size) : Ops (w.alloc (.cells #[.int .i64 x.k, .string ⟨x.s.toArray⟩, .int .i64 x.n] 64 (0, 0))) [x] (some ⟨g, 0, none⟩) 1 := by
  subst hg
  have hn := at_new w (.cells #[.int .i64 x.k, .string ⟨x.s.toArray⟩, .int .i64 x.n] 64 (0, 0))
  refine ⟨by simp, by unfold maxLen; omega, .inr ⟨w.heap.size, 0, rfl, by simp, fun i hi => ?_⟩⟩
  obtain rfl : i = 0 := by simpa using hi
  exact ⟨at_cell hn 0, at_cell hn 1, at_cell hn 2⟩
theorem outs_one (w : World) (x : Ou) (g : Nat) (hg : g = w.heap.size) : Outs (w.alloc (.cells #[.int .i64 x.1, .string ⟨x.2.toArray⟩] 36 (0, 0))) [x] (some ⟨g, 0, none⟩) 1 := by
  subst hg
  have hn := at_new w (.cells #[.int .i64 x.1, .string ⟨x.2.toArray⟩] 36 (0, 0))
  refine ⟨by simp, by unfold maxLen; omega, .inr ⟨w.heap.size, 0, rfl, by simp, fun i hi => ?_⟩⟩
  obtain rfl : i = 0 := by simpa using hi
  exact ⟨at_cell hn 0, at_cell hn 1⟩
def s0 : Ln := mk 2 8 0 exF
def s1 : Ln := ⟨2, 8, 0, exF, 2, 0, 0, [], 0, 0, []⟩
def s2 : Ln := ⟨2, 8, 0, exF, 1, 1, 12, [], 0, 0, []⟩
def s3 : Ln := ⟨2, 8, 0, exF, 2, 1, 0, [], 0, 0, []⟩
def s4 : Ln := ⟨2, 8, 0, exF, 3, 0, 0, [(12, ⟨1, [105], 0⟩)], 13, 12, []⟩
def s5 : Ln := ⟨2, 8, 0, exF, 3, 0, 0, [(12, ⟨1, [105], 0⟩)], 13, 12, [97, 98, 99]⟩
def s6 : Ln := ⟨2, 8, 0, exF, 4, 0, 0, [], 0, 0, []⟩
def s7 : Ln := ⟨2, 8, 0, exF, 1, 1, 16, [], 0, 0, []⟩
def s8 : Ln := ⟨2, 8, 0, exF, 0, 1, 0, [], 0, 0, []⟩
theorem e1 : startL s0 = s1 ∧ startO s0 = [(1, [])] := ⟨rfl, rfl⟩
theorem e2 : openL s1 10 false 0 = s2 ∧ openO s1 10 false = [] := ⟨rfl, rfl⟩
theorem e2n : nextV s2 = 12 ∧ nextI s2 = true := ⟨rfl, rfl⟩
theorem e3 : tickL s2 12 = s3 ∧ tickO s2 12 = [(1, [])] := ⟨rfl, rfl⟩
theorem e4 : openL s3 12 true 0 = s4 ∧ openO s3 12 true = [(3, [105])] := ⟨rfl, rfl⟩
theorem e5 : sendB s4 [97, 98, 99] = true ∧ sendL s4 [97, 98, 99] = s5 ∧ sendO s4 [97, 98, 99] = [] := ⟨by decide, rfl, rfl⟩
theorem e6 : tickL s5 13 = s6 ∧ tickO s5 13 = [(3, [97, 98, 99])] := ⟨rfl, rfl⟩
theorem e7 : brkC s6 13 [⟨3, [], 0⟩] = 0 ∧ brkL s6 13 [⟨3, [], 0⟩] = s6 ∧ brkO s6 13 [⟨3, [], 0⟩] = [(4, [])] := ⟨by decide, rfl, rfl⟩
theorem e8 : lostB s6 14 = true ∧ lostL s6 14 0 = s7 := ⟨by decide, rfl⟩
theorem e9 : stopL s7 = s8 ∧ stopO s7 = [] := ⟨rfl, rfl⟩

set_option maxRecDepth 100000 in
set_option maxHeartbeats 16000000 in
theorem works_calls (w : World) : Calls Try.prog 6 #[] w fun e w' => e = .returned (.bool true) ∧ Below w.heap.size w w' := by
  have C1 : newC 2 8 0 [105, 92, 100] = 0 := by unfold newC; rw [if_pos (by decide), ex_is.1]
  have C2 : newC 0 0 0 [] = 2 := by unfold newC; rw [if_neg (by decide)]
  have C3 : newC 1 1 0 [92, 113] = 3 := by unfold newC; rw [if_pos (by decide), ey_is]
  have HC := Lib.hid (And.intro C1 (And.intro C2 C3))
  clear C1 C2 C3
  go_enter Try.func6, Try.ntmps6
  go_wp2_with fail
  trace_state
  refine (new_line (.string ⟨#[]⟩) (.int .i64 0) (.int .i64 0) (.int .i64 0) (.int .i64 0) (.int .i64 0) 2 8 0 [105, 92, 100] (by decide) w).mono ?_
  rintro e w1 (⟨h, _⟩ | ⟨_, k, S, rfl, hM, hS, hB⟩)
  · exact absurd HC.out.1 h
  rw [ex_is.2] at hM
  have W1 : Hid (Wk w w1 k S s0) := Lib.hid ⟨hM, hS, hB⟩
  clear hM hS hB
  go_wp2_with fail
  refine (new_line (.string ⟨#[]⟩) (.int .i64 0) (.int .i64 0) (.int .i64 0) (.int .i64 0) (.int .i64 0) 0 0 0 [] (by decide) w1).mono ?_
  rintro e w2 (⟨_, rfl, hB⟩ | ⟨h, _⟩)
  case inr => rw [HC.out.2.1] at h; cases h
  rw [HC.out.2.1]
  have W2 := Lib.hid (W1.out.keep hB)
  clear hB W1
  go_wp2_with fail
  refine (new_line (.string ⟨#[]⟩) (.int .i64 0) (.int .i64 0) (.int .i64 0) (.int .i64 0) (.int .i64 0) 1 1 0 [92, 113] (by decide) w2).mono ?_
  rintro e w3 (⟨_, rfl, hB⟩ | ⟨h, _⟩)
  case inr => rw [HC.out.2.2] at h; cases h
  rw [HC.out.2.2]
  have W3 := Lib.hid (W2.out.keep hB)
  clear hB W2
  go_wp2_with fail
  refine (start_calls W3.out.mem).mono ?_
  rintro e w4 hG
  obtain ⟨S4, pa, ca, rfl, hW, hT, hA⟩ := W3.out.gives hG e1.1 e1.2
  have W4 := Lib.hid hW
  have A4 := Lib.hid hA
  clear hW hT hA hG W3
  go_wp2_with fail
  refine (opened_calls 10 0 false (by decide) W4.out.mem).mono ?_
  rintro e w5 hG
  obtain ⟨S5, pb, cb, rfl, hW, hT, -⟩ := W4.out.gives hG e2.1 e2.2
  have W5 := Lib.hid hW
  have A5 := Lib.hid (hT.stays A4.out)
  clear hW hT hG W4 A4
  go_wp2_with fail
  refine (next_calls W5.out.mem).mono ?_
  rintro e w' ⟨rfl, rfl⟩
  rw [e2n.1, e2n.2]
  go_wp2_with fail
  refine (tick_calls 12 W5.out.mem).mono ?_
  rintro e w6 hG
  obtain ⟨S6, pc, cc, rfl, hW, hT, -⟩ := W5.out.gives hG e3.1 e3.2
  have W6 := Lib.hid hW
  have A6 := Lib.hid (hT.stays A5.out)
  clear hW hT hG W5 A5
  go_wp2_with fail
  refine (opened_calls 12 0 true (by decide) W6.out.mem).mono ?_
  rintro e w7 hG
  obtain ⟨S7, pd, cd, rfl, hW, hT, hD⟩ := W6.out.gives hG e4.1 e4.2
  have W7 := Lib.hid hW
  have A7 := Lib.hid (hT.stays A6.out)
  have D7 := Lib.hid hD
  clear hW hT hG W6 A6 hD
  go_wp2_with fail
  refine (send_calls [97, 98, 99] W7.out.mem).mono ?_
  rintro e w8 ⟨v, rfl, hG⟩
  obtain ⟨S8, pe, ce, e, hW, hT, -⟩ := W7.out.gives hG e5.2.1 e5.2.2
  cases e
  rw [e5.1]
  have W8 := Lib.hid hW
  have A8 := Lib.hid (hT.stays A7.out)
  have D8 := Lib.hid (hT.stays D7.out)
  clear hW hT hG W7 A7 D7
  go_wp2_with fail
  refine (held_calls W8.out.mem).mono ?_
  rintro e w' ⟨rfl, rfl⟩
  rw [show ((s5.H.length : Nat) : Int) = 3 from rfl]
  go_wp2_with fail
  refine (tick_calls 13 W8.out.mem).mono ?_
  rintro e w9 hG
  obtain ⟨S9, pi, ci, rfl, hW, hT, hI⟩ := W8.out.gives hG e6.1 e6.2
  have W9 := Lib.hid hW
  have A9 := Lib.hid (hT.stays A8.out)
  have D9 := Lib.hid (hT.stays D8.out)
  have I9 := Lib.hid hI
  clear hW hT hG W8 A8 D8 hI
  go_wp2_with fail
  refine (state_calls W9.out.mem).mono ?_
  rintro e w' ⟨rfl, rfl⟩
  rw [show s6.st = 4 from rfl]
  go_wp2_with fail
  have hb1 : Below w9.heap.size w9 (w9.alloc (.cells #[.int .i64 3, .string ⟨#[]⟩, .int .i64 0] 64 (0, 0))) := (Below.refl _ _).alloc (Nat.le_refl _) _
  have hO1 := ops_one w9 ⟨3, [], 0⟩ _ rfl
  have W10 := Lib.hid (W9.out.keep hb1)
  have A10 := Lib.hid ((Step.below hb1).stays A9.out)
  have D10 := Lib.hid ((Step.below hb1).stays D9.out)
  have I10 := Lib.hid ((Step.below hb1).stays I9.out)
  refine (break_calls 13 [⟨3, [], 0⟩] 1 rfl (by omega) _ 1 hO1 W10.out.mem).mono ?_
  rintro e w11 ⟨v, rfl, hG⟩
  obtain ⟨S11, pj, cj, e, hW, hT, hJ⟩ := W10.out.gives hG e7.2.1 e7.2.2
  cases e
  rw [e7.1]
  have W11 := Lib.hid hW
  have A11 := Lib.hid (hT.stays A10.out)
  have D11 := Lib.hid (hT.stays D10.out)
  have I11 := Lib.hid (hT.stays I10.out)
  have J11 := Lib.hid hJ
  clear hW hT hG W9 A9 D9 I9 W10 A10 D10 I10 hJ hb1 hO1
  go_wp2_with fail
  refine (lost_calls 14 0 (by decide) W11.out.mem).mono ?_
  rintro e w12 ⟨rfl, hG⟩
  rw [e8.1]
  rw [e8.2] at hG
  obtain ⟨S12, hW, hT⟩ := W11.out.does hG
  have W12 := Lib.hid hW
  have A12 := Lib.hid (hT.stays A11.out)
  have D12 := Lib.hid (hT.stays D11.out)
  have I12 := Lib.hid (hT.stays I11.out)
  have J12 := Lib.hid (hT.stays J11.out)
  clear hW hT hG W11 A11 D11 I11 J11
  go_wp2_with fail
  refine (stop_calls W12.out.mem).mono ?_
  rintro e w13 hG
  obtain ⟨S13, pm, cm, rfl, hW, hT, -⟩ := W12.out.gives hG e9.1 e9.2
  have W13 := Lib.hid hW
  have A13 := Lib.hid (hT.stays A12.out w13 (Out.refl _ _))
  have D13 := Lib.hid (hT.stays D12.out w13 (Out.refl _ _))
  have I13 := Lib.hid (hT.stays I12.out w13 (Out.refl _ _))
  have J13 := Lib.hid (hT.stays J12.out w13 (Out.refl _ _))
  clear hW hT hG W12 A12 D12 I12 J12
  go_wp2_with fail
  have hb1 : Below w13.heap.size w13 (w13.alloc (.cells #[.int .i64 1, .string ⟨#[]⟩] 36 (0, 0))) := (Below.refl _ _).alloc (Nat.le_refl _) _
  refine (same_outs [(1, [])] 1 rfl _ _ _ _ _ (A13.out.below hb1) (outs_one w13 (1, []) _ rfl)).mono ?_
  rintro e w14 ⟨rfl, hb⟩
  have B14 := Lib.hid (hb1.trans (hb.mono hb1.size))
  clear hb hb1
  go_wp2_with fail
  have hb1 : Below w14.heap.size w14 (w14.alloc (.cells #[.int .i64 3, .string ⟨#[105]⟩] 36 (0, 0))) := (Below.refl _ _).alloc (Nat.le_refl _) _
  refine (same_outs [(3, [105])] 1 rfl _ _ _ _ _ ((D13.out.below B14.out).below hb1) (outs_one w14 (3, [105]) _ rfl)).mono ?_
  rintro e w15 ⟨rfl, hb⟩
  have B15 := Lib.hid (B14.out.trans ((hb1.trans (hb.mono hb1.size)).mono B14.out.size))
  clear hb hb1 B14
  go_wp2_with fail
  have hb1 : Below w15.heap.size w15 (w15.alloc (.cells #[.int .i64 3, .string ⟨#[97, 98, 99]⟩] 36 (0, 0))) := (Below.refl _ _).alloc (Nat.le_refl _) _
  refine (same_outs [(3, [97, 98, 99])] 1 rfl _ _ _ _ _ ((I13.out.below B15.out).below hb1) (outs_one w15 (3, [97, 98, 99]) _ rfl)).mono ?_
  rintro e w16 ⟨rfl, hb⟩
  have B16 := Lib.hid (B15.out.trans ((hb1.trans (hb.mono hb1.size)).mono B15.out.size))
  clear hb hb1 B15
  go_wp2_with fail
  have hb1 : Below w16.heap.size w16 (w16.alloc (.cells #[.int .i64 4, .string ⟨#[]⟩] 36 (0, 0))) := (Below.refl _ _).alloc (Nat.le_refl _) _
  refine (same_outs [(4, [])] 1 rfl _ _ _ _ _ ((J13.out.below B16.out).below hb1) (outs_one w16 (4, []) _ rfl)).mono ?_
  rintro e w17 ⟨rfl, hb⟩
  have B17 := Lib.hid (B16.out.trans ((hb1.trans (hb.mono hb1.size)).mono B16.out.size))
  clear hb hb1 B16
  have W17 := Lib.hid (W13.out.keep B17.out)
  go_wp2_with fail
  refine (state_calls W17.out.mem).mono ?_
  rintro e w' ⟨rfl, rfl⟩
  rw [show s8.st = 0 from rfl]
  go_wp2_with fail
  go_ret
  exact ⟨rfl, W17.out.below⟩
end Go.Proofs.Ytnkhdpenmekhdaa.Lin
end

section
namespace Go.Proofs.Ytnkhdpenmekhdaa.Own
open Go.RowKit Go.ChangeShapes Go.WideShapes Go.Deep

section
variable {H : Type} {enc : TypeId × Value → H} {P : Program} {w : World} {base : Nat} {spare : Nat → Bool} {held : Bool}
/-- each piece of a reading takes no more than the reach -/
def WOk (P : Program) (t : TypeId) (d : DataW H) : Prop := ∀ n ∈ DataW.weights P t d, n ≤ reachBytes
theorem weights_all {e : TypeId} {l : List (DataW H)} {d : DataW H} (hd : d ∈ l) {n : Nat} (hn : n ∈ DataW.weights P e d) : n ∈ DataW.weightsAll P e l := by
  induction l with
  | nil => cases hd
  | cons x r ih =>
    unfold DataW.weightsAll
    rcases List.mem_cons.1 hd with rfl | h
    · exact List.mem_append_left _ hn
    · exact List.mem_append_right _ (ih h)
theorem args_slice_w {t e : TypeId} {v : Value} {d : DataW H} {p : List MemPlace} {size : Nat} (ht : P.underlying t = some (.slice e)) (hC : P.cellsOf e = size) (h0 : 0 < size) (h : DataW.Trod enc P w base spare held t v d p) (hw : WOk P t d) (hv : ∃ a n cap, v = .slice a n cap) :
    ∃ n E, Row w v n size E ∧ ∃ m, ∀ i, i < n → ∃ y, DataW.trod enc P w base spare held m e ((List.range size).map (E i)) = some y ∧ WOk P e y.1 := by
  obtain ⟨a, n, cap, rfl⟩ := hv
  obtain ⟨fuel, hf⟩ := h
  rcases open_slice ht hf with ⟨hcs, _⟩ | ⟨x, l, c, m, k, D, Pl, hcs, hb, hl, hm, hmm, hx, hi⟩
  · simp [Value.cells] at hcs
    obtain ⟨rfl, rfl, rfl⟩ := hcs
    exact ⟨0, fun _ _ => undef, ⟨none, 0, rfl, Nat.le_refl _, Nat.zero_le _, .inl rfl⟩, 0, fun i hi => absurd hi (by omega)⟩
  · simp [Value.cells] at hcs
    obtain ⟨rfl, rfl, rfl⟩ := hcs
    rw [hC] at hi
    have hnm : n ≤ m := by rw [hmm]; split <;> omega
    refine ⟨n, fun i j => (w.cell? (x.add (i * size + j))).getD undef, ⟨some x, cap, rfl, hl, hm, ?_⟩, k, ?_⟩
    · by_cases hn : n = 0
      · exact .inl hn
      · right
        obtain ⟨b, off, spot⟩ := x
        obtain ⟨cs0, hc0, _⟩ := hi 0 (by omega)
        obtain ⟨_, _, hat0⟩ := World.cells?_some hc0
        have h00 := hat0 0 h0
        obtain ⟨_, hcl0, _⟩ := World.cells?_some hc0
        have hsp : spot = none := by
          have e : cs0[0]? = some (cs0[0]'(by omega)) := List.getElem?_eq_getElem (by omega)
          rw [e] at h00
          simpa [Addr.add] using World.cell?_spot h00
        subst hsp
        have hadd : ∀ o k, (⟨b, o, none⟩ : Addr).add k = ⟨b, o + k, none⟩ := fun o k => by unfold Addr.add; split <;> simp_all
        refine ⟨b, off, rfl, ?_, ?_⟩
        · have e : cs0[0]? = some (cs0[0]'(by omega)) := List.getElem?_eq_getElem (by omega)
          rw [e] at h00
          have := World.block_lt_of_cell? w _ h00
          simpa [hadd] using this
        · intro i j hin hj
          obtain ⟨cs, hc, _⟩ := hi i (by omega)
          obtain ⟨_, hcl, hat⟩ := World.cells?_some hc
          have hcell := hat j hj
          have e : cs[j]? = some (cs[j]'(by omega)) := List.getElem?_eq_getElem (by omega)
          rw [e] at hcell
          simp only [hadd] at hcell ⊢
          rw [← Nat.add_assoc, hcell]; simp
    · intro i hin
      obtain ⟨cs, hc, ht'⟩ := hi i (by omega)
      obtain ⟨_, hcl, hat⟩ := World.cells?_some hc
      refine ⟨(D i, Pl i), ?_, ?_⟩
      · rw [← ht']
        congr 1
        apply List.ext_getElem?
        intro j
        by_cases hj : j < size
        · have hcell := hat j hj
          have e : cs[j]? = some (cs[j]'(by omega)) := List.getElem?_eq_getElem (by omega)
          rw [Go.Deep.add_add] at hcell
          rw [List.getElem?_map, List.getElem?_range hj, e]
          rw [e] at hcell
          simp [hcell]
        · rw [List.getElem?_eq_none (by simp; omega), List.getElem?_eq_none (by omega)]
      · intro z hz
        have hd : d = .slice ((List.range n).map D) ((List.range (m - n)).map fun j => D (n + j)) := congrArg Prod.fst hx
        rw [hd] at hw
        refine hw z ?_
        unfold DataW.weights
        rw [ht]
        exact List.mem_cons_of_mem _ (List.mem_append_left _ (weights_all (List.mem_map.2 ⟨i, List.mem_range.2 hin, rfl⟩) hz))
variable {m : Nat} {y : DataW H × List MemPlace}
theorem leaf_field_w {e : TypeId} {fs : Array Field} {size : Nat} {E : Nat → Value} (he : P.underlying e = some (.struct fs)) (h : DataW.trod enc P w base spare held m e ((List.range size).map E) = some y) (hw : WOk P e y.1)
    (j : Nat) (f : Field) (hf : fs[j]? = some f) (o c : Nat) (ho : f.offset = o) (hc : P.cellsOf f.type = c) (hs : o + c ≤ size) : ∃ m' y', DataW.trod enc P w base spare held m' f.type ((List.range c).map fun k => E (o + k)) = some y' ∧ WOk P f.type y'.1 := by
  obtain ⟨xs, n, _, hy, _, hlen, hyl⟩ := DataW.trod_struct he h
  have hj : j < fs.size := (Array.getElem?_eq_some_iff.1 hf).1
  refine ⟨n, xs[j]'(by omega), ?_, ?_⟩
  · have := hyl j f hf
    rw [ho, hc, List.getElem?_eq_getElem (by omega)] at this
    rw [← this]
    congr 1
    apply List.ext_getElem?
    intro k
    by_cases hk : k < c
    · rw [List.getElem?_map, List.getElem?_range hk, List.getElem?_take, if_pos hk, List.getElem?_drop, List.getElem?_map, List.getElem?_range (by omega)]; rfl
    · rw [List.getElem?_eq_none (by simp; omega), List.getElem?_eq_none (by simp; omega)]
  · intro z hz
    rw [hy] at hw
    refine hw z ?_
    unfold DataW.weights
    rw [he]
    refine DataW.weights_mem_each (j := j) (t := f.type) ?_ ?_ z hz
    · rw [List.getElem?_map, show fs.toList[j]? = some f by simpa using hf]; rfl
    · rw [List.getElem?_map, List.getElem?_eq_getElem (by omega)]; rfl
theorem leaf_string_w {t : TypeId} {E : Nat → Value} (ht : P.underlying t = some .string) (h : DataW.trod enc P w base spare held m t ((List.range 1).map E) = some y) (hw : WOk P t y.1) : ∃ s, E 0 = .string s ∧ s.size ≤ reachBytes := by
  obtain ⟨s, hs, hy, _⟩ := DataW.trod_string ht h
  refine ⟨s, by simpa using hs, ?_⟩
  have := hw s.data.toList.length (by rw [hy]; simp [DataW.weights])
  rw [show s.data.toList.length = s.size by simp] at this
  exact this
end
end Go.Proofs.Ytnkhdpenmekhdaa.Own
end

section
namespace Go.Proofs.Ytnkhdpenmekhdaa.Brk
open Go.RowKit Go.ChangeShapes Go.WideShapes Go.Deep Go.Proofs.Ytnkhdpenmekhdaa.Own

section
variable {H : Type} {enc : TypeId × Value → H} {w : World} {base : Nat} {spare : Nat → Bool} {held : Bool}
theorem cOp : Try.prog.cellsOf 64 = 3 := by kernel_rfl
theorem op_leaf {E : Nat → Value} {m : Nat} {y : DataW H × List MemPlace} (h : DataW.trod enc Try.prog w base spare held m 64 ((List.range 3).map E) = some y) :
    ∃ x : Op, (x.n ≤ 9223372036854775807 ∧ x.s.length ≤ 9223372036854775807) ∧ E 0 = .int .i64 x.k ∧ E 1 = .string ⟨x.s.toArray⟩ ∧ E 2 = .int .i64 x.n := by
  obtain ⟨m0, y0, h0⟩ := leaf_field Try.underlying64 h 0 _ rfl 0 1 rfl (by kernel_rfl) (by omega)
  obtain ⟨m1, y1, h1⟩ := leaf_field Try.underlying64 h 1 _ rfl 1 1 rfl (by kernel_rfl) (by omega)
  obtain ⟨m2, y2, h2⟩ := leaf_field Try.underlying64 h 2 _ rfl 2 1 rfl (by kernel_rfl) (by omega)
  obtain ⟨k, e0, _⟩ := leaf_int Try.underlying3 h0
  obtain ⟨s, e1, hs⟩ := leaf_string Try.underlying9 h1
  obtain ⟨n, e2, wn⟩ := leaf_int Try.underlying3 h2
  obtain ⟨l, rfl, hl⟩ : ∃ l : List UInt8, s = ⟨l.toArray⟩ ∧ l.length = s.size := ⟨s.data.toList, by simp, by simp⟩
  have := wf64 wn
  unfold maxLen at hs
  refine ⟨⟨k, l, n⟩, ⟨this.2, ?_⟩, by simpa using e0, by simpa using e1, by simpa using e2⟩
  show l.length ≤ _
  omega
set_option maxRecDepth 100000 in
theorem ops_open {v : Value} (t : ∃ d p, DataW.Trod enc Try.prog w base spare held 30 v d p) {r : Reach} (o : ∃ base, Value.okWide Try.prog w r base 30 v) :
    ∃ L p n c, v = .slice p n c ∧ L.length = n ∧ Ops w L p c ∧ ∀ x ∈ L, x.n ≤ 9223372036854775807 ∧ x.s.length ≤ 9223372036854775807 := by
  obtain ⟨d, p, t⟩ := t
  obtain ⟨b0, o⟩ := o
  obtain ⟨a, len, cap, rfl⟩ := okWide_slice Try.underlying30 o
  obtain ⟨n, E, hrow, m, hE⟩ := args_slice Try.underlying30 (size := 3) cOp (by omega) t ⟨_, _, _, rfl⟩
  have hz : ∀ i, ∃ x : Op, i < n → (x.n ≤ 9223372036854775807 ∧ x.s.length ≤ 9223372036854775807) ∧ E i 0 = .int .i64 x.k ∧ E i 1 = .string ⟨x.s.toArray⟩ ∧ E i 2 = .int .i64 x.n := fun i => by
    by_cases hi : i < n
    · obtain ⟨y, hy⟩ := hE i hi
      obtain ⟨x, h⟩ := op_leaf hy
      exact ⟨x, fun _ => h⟩
    · exact ⟨⟨0, [], 0⟩, fun h => absurd h hi⟩
  obtain ⟨a2, cap2, e, h1, h2, h3⟩ := hrow
  cases e
  refine ⟨(List.range len).map fun i => (hz i).choose, a, len, cap, rfl, by simp, ⟨by simpa using h1, h2, ?_⟩, fun x hx => ?_⟩
  · rcases h3 with rfl | ⟨g, off, rfl, hl, hc⟩
    · exact .inl rfl
    · refine .inr ⟨g, off, rfl, hl, fun i hi => ?_⟩
      have hi' : i < len := by simpa using hi
      obtain ⟨_, e0, e1, e2⟩ := (hz i).choose_spec hi'
      have c0 := hc i 0 hi' (by omega)
      have c1 := hc i 1 hi' (by omega)
      have c2 := hc i 2 hi' (by omega)
      simp only [List.getElem_map, List.getElem_range]
      rw [e0] at c0
      rw [e1] at c1
      rw [e2] at c2
      exact ⟨c0, c1, c2⟩
  · simp only [List.mem_map, List.mem_range] at hx
    obtain ⟨i, hi, rfl⟩ := hx
    exact ((hz i).choose_spec hi).1
end
end Go.Proofs.Ytnkhdpenmekhdaa.Brk
end

section
namespace Go.Proofs.Ytnkhdpenmekhdaa.Lin
open Go.RowKit Go.Proofs.Ytnkhdpenmekhdaa.Own Go.ChangeShapes Go.WideShapes Go.Deep Go.Proofs.Ytnkhdpenmekhdaa.Brk

/-- an act, as it came in -/
structure Ac where
  k : Int
  g : Int
  ok : Bool
  r : Int
  s : List UInt8
  q : Option Addr
  n : Nat
  c : Nat
  L : List Op
def Ac.cells (a : Ac) : List Value := [.int .u8 a.k, .int .u8 a.g, .bool a.ok, .int .i64 a.r, .string ⟨a.s.toArray⟩, .slice a.q a.n a.c]
structure OkA (w : World) (a : Ac) : Prop where
  k : 0 ≤ a.k ∧ a.k ≤ 255
  g : 0 ≤ a.g ∧ a.g ≤ 255
  r : -9223372036854775808 ≤ a.r ∧ a.r ≤ 9223372036854775807
  s : a.s.length ≤ 140737488355327
  len : a.L.length = a.n
  ops : Ops w a.L a.q a.c
  few : ∀ x ∈ a.L, x.s.length ≤ 140737488355327
theorem OkA.below {w w' : World} {a : Ac} (h : OkA w a) (hb : Below w.heap.size w w') : OkA w' a := ⟨h.k, h.g, h.r, h.s, h.len, h.ops.below hb, h.few⟩
theorem reach_le : reachBytes ≤ 140737488355327 := by have := reachBytes_lt; omega

section
variable {H : Type} {enc : TypeId × Value → H} {w : World} {base : Nat} {spare : Nat → Bool} {held : Bool}
theorem op_leaf_w {E : Nat → Value} {m : Nat} {y : DataW H × List MemPlace} (h : DataW.trod enc Try.prog w base spare held m 64 ((List.range 3).map E) = some y) (hw : WOk Try.prog 64 y.1) :
    ∃ x : Op, x.s.length ≤ 140737488355327 ∧ E 0 = .int .i64 x.k ∧ E 1 = .string ⟨x.s.toArray⟩ ∧ E 2 = .int .i64 x.n := by
  obtain ⟨m0, y0, h0, _⟩ := leaf_field_w Try.underlying64 h hw 0 _ rfl 0 1 rfl (by kernel_rfl) (by omega)
  obtain ⟨m1, y1, h1, w1⟩ := leaf_field_w Try.underlying64 h hw 1 _ rfl 1 1 rfl (by kernel_rfl) (by omega)
  obtain ⟨m2, y2, h2, _⟩ := leaf_field_w Try.underlying64 h hw 2 _ rfl 2 1 rfl (by kernel_rfl) (by omega)
  obtain ⟨k, e0, _⟩ := leaf_int Try.underlying3 h0
  obtain ⟨s, e1, hs⟩ := leaf_string_w Try.underlying9 h1 w1
  obtain ⟨n, e2, _⟩ := leaf_int Try.underlying3 h2
  obtain ⟨l, rfl, hl⟩ : ∃ l : List UInt8, s = ⟨l.toArray⟩ ∧ l.length = s.size := ⟨s.data.toList, by simp, by simp⟩
  have := reach_le
  refine ⟨⟨k, l, n⟩, ?_, by simpa using e0, by simpa using e1, by simpa using e2⟩
  show l.length ≤ _
  omega
theorem ops_leaf_w {m : Nat} {y : DataW H × List MemPlace} {E : Nat → Value} (h : DataW.trod enc Try.prog w base spare held m 30 ((List.range 1).map E) = some y) (hw : WOk Try.prog 30 y.1) :
    ∃ L p n c, E 0 = .slice p n c ∧ L.length = n ∧ Ops w L p c ∧ ∀ x ∈ L, x.s.length ≤ 140737488355327 := by
  have hv : ∃ a n cap, E 0 = .slice a n cap := by
    rcases open_slice Try.underlying30 h with ⟨hcs, _⟩ | ⟨x, l, c, _, _, _, _, hcs, _⟩
    · exact ⟨_, _, _, by simpa using hcs⟩
    · exact ⟨_, _, _, by simpa using hcs⟩
  have ht : DataW.Trod enc Try.prog w base spare held 30 (E 0) y.1 y.2 := by
    refine ⟨m, ?_⟩
    obtain ⟨a, n, cap, e⟩ := hv
    have e2 : (E 0).cells.toList = (List.range 1).map E := by rw [e]; simp [Value.cells, e]
    rw [e2, h]
  obtain ⟨a, len, cap, e0⟩ := hv
  rw [e0] at ht ⊢
  obtain ⟨n, F, hrow, m', hF⟩ := args_slice_w Try.underlying30 (size := 3) cOp (by omega) ht hw ⟨_, _, _, rfl⟩
  have hz : ∀ i, ∃ x : Op, i < n → x.s.length ≤ 140737488355327 ∧ F i 0 = .int .i64 x.k ∧ F i 1 = .string ⟨x.s.toArray⟩ ∧ F i 2 = .int .i64 x.n := fun i => by
    by_cases hi : i < n
    · obtain ⟨y, hy, hwy⟩ := hF i hi
      obtain ⟨x, h⟩ := op_leaf_w hy hwy
      exact ⟨x, fun _ => h⟩
    · exact ⟨⟨0, [], 0⟩, fun h => absurd h hi⟩
  obtain ⟨a2, cap2, e, h1, h2, h3⟩ := hrow
  cases e
  refine ⟨(List.range len).map fun i => (hz i).choose, a, len, cap, rfl, by simp, ⟨by simpa using h1, h2, ?_⟩, fun x hx => ?_⟩
  · rcases h3 with rfl | ⟨g, off, rfl, hl, hc⟩
    · exact .inl rfl
    · refine .inr ⟨g, off, rfl, hl, fun i hi => ?_⟩
      have hi' : i < len := by simpa using hi
      obtain ⟨_, e0, e1, e2⟩ := (hz i).choose_spec hi'
      have c0 := hc i 0 hi' (by omega)
      have c1 := hc i 1 hi' (by omega)
      have c2 := hc i 2 hi' (by omega)
      simp only [List.getElem_map, List.getElem_range]
      rw [e0] at c0
      rw [e1] at c1
      rw [e2] at c2
      exact ⟨c0, c1, c2⟩
  · simp only [List.mem_map, List.mem_range] at hx
    obtain ⟨i, hi, rfl⟩ := hx
    exact ((hz i).choose_spec hi).1
theorem cAc : Try.prog.cellsOf 53 = 6 := by kernel_rfl
set_option maxRecDepth 100000 in
theorem ac_leaf {m : Nat} {y : DataW H × List MemPlace} {E : Nat → Value} (hy : DataW.trod enc Try.prog w base spare held m 53 ((List.range 6).map E) = some y) (hw : WOk Try.prog 53 y.1) : ∃ o : Ac, OkA w o ∧ ∀ j, j < 6 → E j = o.cells.getD j undef := by
  obtain ⟨m0, y0, h0, _⟩ := leaf_field_w Try.underlying53 hy hw 0 _ rfl 0 1 rfl (by kernel_rfl) (by omega)
  obtain ⟨m1, y1, h1, _⟩ := leaf_field_w Try.underlying53 hy hw 1 _ rfl 1 1 rfl (by kernel_rfl) (by omega)
  obtain ⟨m2, y2, h2, _⟩ := leaf_field_w Try.underlying53 hy hw 2 _ rfl 2 1 rfl (by kernel_rfl) (by omega)
  obtain ⟨m3, y3, h3, _⟩ := leaf_field_w Try.underlying53 hy hw 3 _ rfl 3 1 rfl (by kernel_rfl) (by omega)
  obtain ⟨m4, y4, h4, w4⟩ := leaf_field_w Try.underlying53 hy hw 4 _ rfl 4 1 rfl (by kernel_rfl) (by omega)
  obtain ⟨m5, y5, h5, w5⟩ := leaf_field_w Try.underlying53 hy hw 5 _ rfl 5 1 rfl (by kernel_rfl) (by omega)
  obtain ⟨k, e0, b0⟩ := leaf_int Try.underlying5 h0
  obtain ⟨g, e1, b1⟩ := leaf_int Try.underlying5 h1
  obtain ⟨ok, e2⟩ := leaf_bool Try.underlying4 h2
  obtain ⟨r, e3, b3⟩ := leaf_int Try.underlying3 h3
  obtain ⟨s, e4, hs⟩ := leaf_string_w Try.underlying9 h4 w4
  obtain ⟨L, q, n, c, e5, hL, hO, hF⟩ := ops_leaf_w h5 w5
  obtain ⟨l, rfl, hl⟩ : ∃ l : List UInt8, s = ⟨l.toArray⟩ ∧ l.length = s.size := ⟨s.data.toList, by simp, by simp⟩
  have hre := reach_le
  refine ⟨⟨k, g, ok, r, l, q, n, c, L⟩, ⟨wf8 b0, wf8 b1, wf64 b3, by show l.length ≤ _; omega, hL, hO, hF⟩, fun j hj => ?_⟩
  rcases (show j = 0 ∨ j = 1 ∨ j = 2 ∨ j = 3 ∨ j = 4 ∨ j = 5 by omega) with rfl | rfl | rfl | rfl | rfl | rfl
  · exact e0
  · exact e1
  · exact e2
  · exact e3
  · exact e4
  · exact e5
set_option maxRecDepth 100000 in
theorem acs_open {v : Value} (t : ∃ d p, DataW.Trod enc Try.prog w base spare held 51 v d p ∧ ∀ n ∈ DataW.weights Try.prog 51 d, n ≤ reachBytes) {r : Reach} (o : ∃ base, Value.okWide Try.prog w r base 51 v) :
    ∃ p n cap, ∃ o : Nat → Ac, v = .slice p n cap ∧ Row w (.slice p n cap) n 6 (fun i j => (o i).cells.getD j undef) ∧ ∀ i, i < n → OkA w (o i) := by
  obtain ⟨d, p, t, hw⟩ := t
  obtain ⟨b0, o⟩ := o
  obtain ⟨a, len, cap, rfl⟩ := okWide_slice Try.underlying51 o
  obtain ⟨n, E, hrow, m, hE⟩ := args_slice_w Try.underlying51 (size := 6) cAc (by omega) t hw ⟨_, _, _, rfl⟩
  have hz : ∀ i, ∃ o : Ac, i < n → OkA w o ∧ ∀ j, j < 6 → E i j = o.cells.getD j undef := fun i => by
    by_cases hi : i < n
    · obtain ⟨y, hy, hwy⟩ := hE i hi
      obtain ⟨o, h⟩ := ac_leaf hy hwy
      exact ⟨o, fun _ => h⟩
    · exact ⟨⟨0, 0, false, 0, [], none, 0, 0, []⟩, fun h => absurd h hi⟩
  refine ⟨a, len, cap, fun i => (hz i).choose, rfl, ?_, fun i hi => ?_⟩
  all_goals obtain ⟨a2, cap2, e, h1, h2, h3⟩ := hrow
  all_goals cases e
  · refine ⟨_, _, rfl, h1, h2, h3.imp id ?_⟩
    rintro ⟨g, off, e, hl, hc⟩
    exact ⟨g, off, e, hl, fun i j hi hj => by rw [hc i j hi hj, ((hz i).choose_spec hi).2 j hj]⟩
  · exact ((hz i).choose_spec hi).1
end
end Go.Proofs.Ytnkhdpenmekhdaa.Lin
end

section
namespace Go.Proofs.Ytnkhdpenmekhdaa.Brk
open Go.Proofs.Ytnkhdpenmekhdaa.Digit

def Wm (l : List UInt8) (n : Nat) : Prop := 4 ≤ l.length ∧ l.take 4 = 92 :: 119 :: two n
def Am (l : List UInt8) (n : Nat) : Prop := 4 ≤ l.length ∧ l.take 4 = 92 :: 120 :: hexS n
def Bm (l : List UInt8) (n : Nat) : Prop := (sgn n).length = 2 ∧ 2 ≤ l.length ∧ l.take 2 = sgn n
theorem bm_iff (d : UInt8) (r : List UInt8) (n : Nat) : Bm (92 :: d :: r) n ↔ (n = 92 ∧ d = 92) ∨ (n = 10 ∧ d = 110) ∨ (n = 13 ∧ d = 114) ∨ (n = 9 ∧ d = 116) := by
  have e : (92 :: d :: r).take 2 = [92, d] := by simp
  unfold Bm
  rw [e]
  constructor
  · rintro ⟨h1, -, h2⟩
    by_cases e1 : n = 92
    · subst e1; exact .inl ⟨rfl, (List.cons.inj (List.cons.inj h2).2).1⟩
    by_cases e2 : n = 10
    · subst e2; exact .inr (.inl ⟨rfl, (List.cons.inj (List.cons.inj h2).2).1⟩)
    by_cases e3 : n = 13
    · subst e3; exact .inr (.inr (.inl ⟨rfl, (List.cons.inj (List.cons.inj h2).2).1⟩))
    by_cases e4 : n = 9
    · subst e4; exact .inr (.inr (.inr ⟨rfl, (List.cons.inj (List.cons.inj h2).2).1⟩))
    rw [sgn_other e1 e2 e3 e4] at h1
    split at h1
    · simp [hexS] at h1
    · simp at h1
  · have hl : 2 ≤ (92 :: d :: r).length := by simp
    rintro (⟨rfl, rfl⟩ | ⟨rfl, rfl⟩ | ⟨rfl, rfl⟩ | ⟨rfl, rfl⟩)
    · exact ⟨rfl, hl, rfl⟩
    · exact ⟨rfl, hl, rfl⟩
    · exact ⟨rfl, hl, rfl⟩
    · exact ⟨rfl, hl, rfl⟩
theorem take4 (d : UInt8) (r : List UInt8) : (92 :: d :: r).take 4 = 92 :: d :: r.take 2 := rfl
theorem am_iff (d : UInt8) (r : List UInt8) (n : Nat) : Am (92 :: d :: r) n ↔ d = 120 ∧ r.take 2 = hexS n := by
  unfold Am
  rw [take4]
  constructor
  · rintro ⟨_, h⟩
    have h1 := List.cons.inj (List.cons.inj h).2
    exact ⟨h1.1, h1.2⟩
  · rintro ⟨rfl, h⟩
    have hl := congrArg List.length h
    rw [List.length_take] at hl
    have : (hexS n).length = 2 := rfl
    exact ⟨by simp only [List.length_cons]; omega, by rw [h]⟩
theorem wm_iff (d : UInt8) (r : List UInt8) (n : Nat) : Wm (92 :: d :: r) n ↔ d = 119 ∧ r.take 2 = two n := by
  unfold Wm
  rw [take4]
  constructor
  · rintro ⟨_, h⟩
    have h1 := List.cons.inj (List.cons.inj h).2
    exact ⟨h1.1, h1.2⟩
  · rintro ⟨rfl, h⟩
    have hl := congrArg List.length h
    rw [List.length_take] at hl
    have : (two n).length = 2 := rfl
    exact ⟨by simp only [List.length_cons]; omega, by rw [h]⟩
/-- what the second loop finds -/
def Ways (l : List UInt8) : Prop :=
  (∃ M, M < 256 ∧ (∀ k, k < M → ¬ Am l k ∧ ¬ Bm l k) ∧ ((Am l M ∧ one l = (⟨1, [M.toUInt8], 0⟩, 4)) ∨ (¬ Am l M ∧ Bm l M ∧ one l = (⟨1, [M.toUInt8], 0⟩, 2)))) ∨
  ((∀ k, k < 256 → ¬ Am l k ∧ ¬ Bm l k) ∧ one l = no)
theorem way_two {d : UInt8} {r : List UInt8} (M : Nat) (hM : M < 256) (h0 : d ≠ 120) (hu : ∀ k, Bm (92 :: d :: r) k ↔ k = M) (h : esc d r = (⟨1, [M.toUInt8], 0⟩, 2)) : Ways (92 :: d :: r) := by
  have ha : ∀ k, ¬ Am (92 :: d :: r) k := fun k g => h0 ((am_iff d r k).1 g).1
  refine .inl ⟨M, hM, fun k hk => ⟨ha k, fun g => by have := (hu k).1 g; omega⟩, .inr ⟨ha M, (hu M).2 rfl, by rw [one_esc]; exact h⟩⟩
theorem way_none {d : UInt8} {r : List UInt8} (h0 : d ≠ 120) (hu : ∀ k, ¬ Bm (92 :: d :: r) k) (h : esc d r = no) : Ways (92 :: d :: r) :=
  .inr ⟨fun k _ => ⟨fun g => h0 ((am_iff d r k).1 g).1, hu k⟩, by rw [one_esc]; exact h⟩
theorem ref_ways (t : List UInt8) (h1 : ∀ r, t ≠ 100 :: r) (h2 : ∀ r, t ≠ 122 :: r) :
    (∃ n, 1 ≤ n ∧ n ≤ 99 ∧ Wm (92 :: t) n ∧ (∀ k, k < n → ¬ Wm (92 :: t) k) ∧ one (92 :: t) = (⟨2, [], n⟩, 4)) ∨
    ((∀ k, 1 ≤ k → k ≤ 99 → ¬ Wm (92 :: t) k) ∧ Ways (92 :: t)) := by
  match t with
  | [] =>
    refine .inr ⟨fun k _ _ h => ?_, .inr ⟨fun k _ => ⟨fun h => ?_, fun h => ?_⟩, one_lone⟩⟩
    · have := h.1; simp at this
    · have := h.1; simp at this
    · have := h.2.1; simp at this
  | d :: r =>
    have nw : d ≠ 119 → ∀ k, 1 ≤ k → k ≤ 99 → ¬ Wm (92 :: d :: r) k := fun h k _ _ g => h ((wm_iff d r k).1 g).1
    by_cases e1 : d = 92
    · refine .inr ⟨nw (by rw [e1]; decide), way_two 92 (by omega) (by rw [e1]; decide) (fun k => ?_) (if_pos e1)⟩
      rw [bm_iff, e1]; simp
    by_cases e2 : d = 114
    · refine .inr ⟨nw (by rw [e2]; decide), way_two 13 (by omega) (by rw [e2]; decide) (fun k => ?_) ((if_neg e1).trans (if_pos e2))⟩
      rw [bm_iff, e2]; simp
    by_cases e3 : d = 110
    · refine .inr ⟨nw (by rw [e3]; decide), way_two 10 (by omega) (by rw [e3]; decide) (fun k => ?_) ((if_neg e1).trans ((if_neg e2).trans (if_pos e3)))⟩
      rw [bm_iff, e3]; simp
    by_cases e4 : d = 116
    · refine .inr ⟨nw (by rw [e4]; decide), way_two 9 (by omega) (by rw [e4]; decide) (fun k => ?_) ((if_neg e1).trans ((if_neg e2).trans ((if_neg e3).trans (if_pos e4))))⟩
      rw [bm_iff, e4]; simp
    have hb : ∀ k, ¬ Bm (92 :: d :: r) k := fun k => by rw [bm_iff]; simp [e1, e2, e3, e4]
    have e5 : d ≠ 100 := fun e => h1 r (by rw [e])
    have e6 : d ≠ 122 := fun e => h2 r (by rw [e])
    have he : esc d r = if d = 120 then (if rhC (r.take 2) = 0 then (⟨1, [(rhV (r.take 2)).toNat.toUInt8], 0⟩, 4) else no) else if d = 119 then (if tk (r.take 2) = 0 then no else (⟨2, [], tk (r.take 2)⟩, 4)) else no := by
      unfold esc
      rw [if_neg e1, if_neg e2, if_neg e3, if_neg e4, if_neg e5, if_neg e6]
    by_cases e7 : d = 120
    · rw [if_pos e7] at he
      refine .inr ⟨nw (by rw [e7]; decide), ?_⟩
      by_cases hc : rhC (r.take 2) = 0
      · rw [if_pos hc] at he
        obtain ⟨c, hc2, hx, hv⟩ := rh_is hc
        refine .inl ⟨c, hc2, fun k hk => ⟨fun g => ?_, hb k⟩, .inl ⟨(am_iff d r c).2 ⟨e7, hx.symm⟩, ?_⟩⟩
        · have := ((am_iff d r k).1 g).2
          have := hexS_inj (by omega) hc2 (this.symm.trans hx.symm)
          omega
        · rw [one_esc, he, hv]; simp
      · rw [if_neg hc] at he
        refine .inr ⟨fun k hk => ⟨fun g => hc ?_, hb k⟩, by rw [one_esc]; exact he⟩
        rw [((am_iff d r k).1 g).2]; exact (rh_some hk).2
    rw [if_neg e7] at he
    by_cases e8 : d = 119
    · rw [if_pos e8] at he
      by_cases hc : tk (r.take 2) = 0
      · rw [if_pos hc] at he
        refine .inr ⟨fun k k1 k2 g => ?_, way_none e7 hb he⟩
        have := ((wm_iff d r k).1 g).2
        rw [this, tk_some k1 k2] at hc
        omega
      · rw [if_neg hc] at he
        obtain ⟨t1, t2, t3⟩ := tk_is hc
        refine .inl ⟨tk (r.take 2), t1, t2, (wm_iff d r _).2 ⟨e8, t3.symm⟩, fun k hk g => ?_, by rw [one_esc]; exact he⟩
        have := ((wm_iff d r k).1 g).2
        have := two_inj (by omega) t2 (this.symm.trans t3.symm)
        omega
    · rw [if_neg e8] at he
      exact .inr ⟨nw e8, way_none e7 hb he⟩
end Go.Proofs.Ytnkhdpenmekhdaa.Brk
end

section
namespace Go.Proofs.Ytnkhdpenmekhdaa.Brk
open Go.RowKit Go.Proofs.Ytnkhdpenmekhdaa.Digit Go.Proofs.Ytnkhdpenmekhdaa.Own

def ropE (r : Op × Nat) : Ending := .returned (.tuple #[.agg #[.int .i64 r.1.k, .string ⟨r.1.s.toArray⟩, .int .i64 r.1.n], .int .i64 r.2])
theorem cut_first (s : ByteArray) (k : Nat) (hk : k ≤ s.size) (W : World) :
    (Instr.sliceAt 9 (.string s) none (some (.int .i64 k)) none).run Try.prog W = .ok (.string ⟨(s.data.toList.take k).toArray⟩) W := by
  rw [run_sliceAt_string W 9 _ _ _ _ Try.underlying9, run_slice_string_to_if W 9 s .i64 k Try.underlying9, if_pos ⟨by omega, by omega⟩]
  have e : s.extract 0 k = ⟨(s.data.toList.take k).toArray⟩ := by
    apply ByteArray.ext; apply Array.toList_inj.1; simp [List.extract_eq_take_drop]
  rw [Int.toNat_natCast, e]
theorem rpad_two (n : Nat) (h : n ≤ 99) (w : World) : Calls Try.prog 43 #[.int .i64 n, .int .i64 2] w fun e w' => e = .returned (.string ⟨(two n).toArray⟩) ∧ w' = w := by
  refine (rpad_calls n 2 (by omega) (by omega) w).mono ?_
  rintro e w' ⟨rfl, rfl⟩
  rw [pad_two h]; exact ⟨rfl, rfl⟩
theorem rhex_one (n : Nat) (h : n < 256) (w : World) : Calls Try.prog 44 #[.int .u8 n] w fun e w' => e = .returned (.string ⟨(hexS n).toArray⟩) ∧ w = w' := by
  have := rhex_calls n (by omega) (by omega) w
  rwa [Int.toNat_natCast] at this
theorem rshow_one (n : Nat) (h : n < 256) (w : World) : Calls Try.prog 45 #[.string ⟨#[(n : Int).toNat.toUInt8]⟩] w fun e w' => e = .returned (.string ⟨(sgn n).toArray⟩) ∧ Below w.heap.size w w' := by
  have := rshow_calls ⟨#[(n : Int).toNat.toUInt8]⟩ (by show 1 ≤ _; omega) w
  have e : shw (⟨#[(n : Int).toNat.toUInt8]⟩ : ByteArray).data.toList = sgn n := by
    show shw [(n : Int).toNat.toUInt8] = _
    rw [shw_cons]
    have : (n : Int).toNat.toUInt8.toNat = n := by simp; omega
    rw [this]; simp [shw]
  rwa [e] at this

set_option maxRecDepth 100000 in
set_option maxHeartbeats 4000000 in
theorem rone_plain (s : ByteArray) (h1 : 0 < s.size) (h0 : ¬ (s[0].toNat : Int) = 92) (w : World) :
    Calls Try.prog 26 #[.string s] w fun e w' => e = ropE (one s.data.toList) ∧ Below w.heap.size w w' := by
  have e0 : s[0] ≠ 92 := ne_byte (n := 92) h0 (by omega)
  obtain ⟨t, e⟩ := list_one s h1
  have b0 : ((s[0].toNat : Int) != 92) = true := by simpa using h0
  by_cases hc : 32 ≤ (s[0].toNat : Int) ∧ (s[0].toNat : Int) ≤ 126
  · obtain ⟨q1, q2⟩ := hc
    have H := Lib.hid (show one s.data.toList = (⟨1, [s[0]], 0⟩, 1) by rw [e]; exact one_plain t (by omega) (by omega) e0)
    have HX := Lib.hid (show s.extract 0 1 = ⟨#[s[0]]⟩ by
      apply ByteArray.ext
      apply Array.toList_inj.1
      simp [ByteArray.data_extract, List.extract_eq_take_drop, e])
    have q3 : ¬ (s[0].toNat : Int) < 32 := by omega
    have q4 : ¬ 126 < (s[0].toNat : Int) := by omega
    clear e0 e h0
    go_enter Try.func26, Try.ntmps26
    go_wp2_with fail
    refine bodyPost_ret (v := .tuple #[.agg #[.int .i64 1, .string (s.extract 0 1), .int .i64 0], .int .i64 1]) ?_ rfl ⟨by rw [H.out, HX.out]; rfl, (Below.refl _ _).alloc (Nat.le_refl _) _⟩
    simp [results, Try.results26, go_sem, *]
  · have H := Lib.hid (show one s.data.toList = no by rw [e]; exact one_bad t (fun g => hc ⟨by omega, by omega⟩) e0)
    clear e0 e h0
    rcases (show (s[0].toNat : Int) < 32 ∨ (¬ (s[0].toNat : Int) < 32 ∧ 126 < (s[0].toNat : Int)) by omega) with q | ⟨q, q2⟩
    all_goals
      clear hc
      go_enter Try.func26, Try.ntmps26
      go_wp2_with fail
      refine bodyPost_ret (v := .tuple #[.agg #[.int .i64 0, .string ⟨#[]⟩, .int .i64 0], .int .i64 0]) ?_ rfl ⟨by rw [H.out]; rfl, (Below.refl _ _).alloc (Nat.le_refl _) _⟩
      simp [results, Try.results26, go_sem, *]

set_option maxRecDepth 100000 in
set_option maxHeartbeats 4000000 in
theorem rone_quick (s : ByteArray) (h1 : 2 ≤ s.size) (h0 : (s[0].toNat : Int) = 92) (h : (s[1].toNat : Int) = 100 ∨ (s[1].toNat : Int) = 122) (w : World) :
    Calls Try.prog 26 #[.string s] w fun e w' => e = ropE (one s.data.toList) ∧ Below w.heap.size w w' := by
  have e0 : s[0] = 92 := eq_byte (n := 92) h0
  have b0 : ((s[0].toNat : Int) != 92) = false := by simp [h0]
  have e := list_three s (by omega)
  rcases h with h | h
  · have H := Lib.hid (show one s.data.toList = (⟨2, [], 1⟩, 2) by rw [e, e0, eq_byte (n := 100) h]; exact one_esc 100 _)
    clear e0 e
    go_enter Try.func26, Try.ntmps26
    go_wp2_with fail
    refine bodyPost_ret (v := .tuple #[.agg #[.int .i64 2, .string ⟨#[]⟩, .int .i64 1], .int .i64 2]) ?_ rfl ⟨by rw [H.out]; rfl, (Below.refl _ _).alloc (Nat.le_refl _) _⟩
    simp [results, Try.results26, go_sem, *]
  · have H := Lib.hid (show one s.data.toList = (⟨3, [], 0⟩, 2) by rw [e, e0, eq_byte (n := 122) h]; exact one_esc 122 _)
    clear e0 e
    go_enter Try.func26, Try.ntmps26
    go_wp2_with fail
    refine bodyPost_ret (v := .tuple #[.agg #[.int .i64 3, .string ⟨#[]⟩, .int .i64 0], .int .i64 2]) ?_ rfl ⟨by rw [H.out]; rfl, (Below.refl _ _).alloc (Nat.le_refl _) _⟩
    simp [results, Try.results26, go_sem, *]
end Go.Proofs.Ytnkhdpenmekhdaa.Brk
end

section
namespace Go.Proofs.Ytnkhdpenmekhdaa.Brk
open Go.RowKit Go.Proofs.Ytnkhdpenmekhdaa.Digit Go.Proofs.Ytnkhdpenmekhdaa.Own

theorem cst_next {L : List Op} {k : Nat} (h : k < L.length) : cst (L.take (k + 1)) = cst (L.take k) + L[k].n := by
  rw [List.take_succ_eq_append_getElem h, cst_app, cst_one]
theorem byt_next {L : List Op} {k : Nat} (h : k < L.length) : byt (L.take (k + 1)) = byt (L.take k) ++ L[k].s := by
  rw [List.take_succ_eq_append_getElem h, byt_app, byt_one]
theorem cst_nonneg {L : List Op} (h : ∀ x ∈ L, Ok x) : 0 ≤ cst L := by
  induction L with
  | nil => simp [cst]
  | cons x l ih =>
    have := (h x (by simp)).pos
    have := ih fun y hy => h y (List.mem_cons_of_mem _ hy)
    simp only [cst]; omega
theorem cst_take {L : List Op} (h : ∀ x ∈ L, Ok x) (k : Nat) : 0 ≤ cst (L.take k) ∧ cst (L.take k) ≤ cst L := by
  have e := cst_app (L.take k) (L.drop k)
  rw [List.take_append_drop] at e
  have h1 := cst_nonneg (L := L.take k) fun x hx => h x (List.mem_of_mem_take hx)
  have h2 := cst_nonneg (L := L.drop k) fun x hx => h x (List.mem_of_mem_drop hx)
  omega
theorem byt_take (L : List Op) (k : Nat) : (byt (L.take k)).length ≤ (byt L).length := by
  have e := byt_app (L.take k) (L.drop k)
  rw [List.take_append_drop] at e
  rw [e, List.length_append]; omega
end Go.Proofs.Ytnkhdpenmekhdaa.Brk
end

section
namespace Go.Proofs.Ytnkhdpenmekhdaa.Brk
open Go.RowKit Go.Proofs.Ytnkhdpenmekhdaa.Digit Go.Proofs.Ytnkhdpenmekhdaa.Own

set_option maxRecDepth 100000 in
set_option maxHeartbeats 2000000 in
theorem rbytes_any (L : List Op) (p : Option Addr) (c n : Nat) (hn : L.length = n) (w : World) (h : Ops w L p c) (hb : (byt L).length ≤ 4611686018427387904) :
    Calls Try.prog 15 #[.slice p n c] w fun e w' => e = .returned (.string ⟨(byt L).toArray⟩) ∧ w' = w := by
  have hcap := h.cap
  have hmax := h.max
  unfold maxLen at hmax
  have q2 : (n : Int) ≤ 9223372036854775807 := by omega
  have HH := Lib.hid h
  have HN := Lib.hid hn
  clear h
  go_enter Try.func15, Try.ntmps15
  go_wp2_with fail
  go_loopw [3, 4] (fun t i wr => ∃ k : Nat, k ≤ n ∧ i = .int .i64 k ∧ t = .string ⟨(byt (L.take k)).toArray⟩ ∧ wr = w) (fun _ i _ => n - (intOf i).toNat)
  case atStart => exact ⟨0, Nat.zero_le _, rfl, rfl, rfl⟩
  case round =>
    obtain ⟨k, hkn, rfl, rfl, rfl⟩ := hrel
    rcases Nat.lt_or_eq_of_le hkn with hlt | rfl
    · have hkl : k < L.length := by omega
      rcases HH.out.cells with h0 | ⟨b, o, rfl, hbl, hc⟩
      · rw [h0] at hkl; simp at hkl
      · obtain ⟨c0, c1, c2⟩ := hc k hkl
        have q1 : (k : Int) < (n : Int) := by omega
        have HX := Lib.hid (byt_next hkl)
        have t1 := byt_take L (k + 1)
        rw [HX.out, List.length_append] at t1
        generalize L[k] = x at *
        generalize byt (L.take k) = t at *
        obtain ⟨xk, xs, xn⟩ := x
        simp only at c0 c1 c2 t1
        clear hc
        go_wp2_with fail
        go_roundw
        case rel => exact ⟨k + 1, by omega, by go_num, by rw [HX.out, ← bytes_add], trivial⟩
        case measure => simp [intOf]; omega
    · have HL := Lib.hid (show L.take k = L from List.take_of_length_le (by omega))
      go_wp2_with fail
      go_ret
      exact ⟨by rw [HL.out]; rfl, rfl⟩
theorem rbytes_calls (L : List Op) (p : Option Addr) (c n : Nat) (hn : L.length = n) (w : World) (h : Ops w L p c) (hb : (byt L).length ≤ 1099511627776) :
    Calls Try.prog 15 #[.slice p n c] w fun e w' => e = .returned (.string ⟨(byt L).toArray⟩) ∧ w' = w := rbytes_any L p c n hn w h (by omega)
end Go.Proofs.Ytnkhdpenmekhdaa.Brk
end


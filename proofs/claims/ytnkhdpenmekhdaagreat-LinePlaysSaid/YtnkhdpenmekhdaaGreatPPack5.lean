/-
Layer 19 (line): a line in memory; rows of what is done.
Layer 1 (calc): the walks of the document's own Is and Double.
Layer 18 (backoff): the document's own Low, walked.
Layer 18 (backoff): the document's own Check, At, walked.
Layer 17 (runner): the document's own Check, walked.
Layer 17 (runner): the document's own Due, Next, walked.
Layer 19 (line): the document's own line, as a value; late, failed, Start, Stop, Next, walked.
Layer 19 (line): the document's own Same, walked.
Layer 19 (line): the document's own Stop, Next, failed, Send, walked.
Layer 19 (line): the document's own goOn, walked.
-/
import Derived.Test.YtnkhdpenmekhdaaGreatPPack4
import Derived.Laws.EntriesVeiled
import Derived.LoopTactic
import Derived.Deep.QuietTactic
import Derived.BigQuiet
section
namespace Go.Proofs.YtnkhdpenmekhdaaGreat.Lin
open Go.RowKit Go.Proofs.YtnkhdpenmekhdaaGreat.Own Go.Proofs.YtnkhdpenmekhdaaGreat.Brk Go.Proofs.YtnkhdpenmekhdaaGreat.Calc Go.Proofs.YtnkhdpenmekhdaaGreat.Tree Go.Proofs.YtnkhdpenmekhdaaGreat.Run Go.Proofs.YtnkhdpenmekhdaaGreat.Bkf

/-! ### what is done, as cells -/
def uv1 (x : Ou) : List Value := [.int .i64 x.1, .string ⟨x.2.toArray⟩]
def uv (L : List Ou) : List Value := L.flatMap uv1
theorem uv_len (L : List Ou) : (uv L).length = L.length * 2 := by
  induction L with
  | nil => rfl
  | cons x r ih =>
    have : uv (x :: r) = uv1 x ++ uv r := rfl
    rw [this, List.length_append, ih]
    simp [uv1]; omega
theorem uv_app (L M : List Ou) : uv (L ++ M) = uv L ++ uv M := by simp [uv]
theorem uv_one (x : Ou) : uv [x] = uv1 x := by simp [uv]
theorem uv_get {L : List Ou} {i : Nat} (h : i < L.length) (j : Nat) (hj : j < 2) : (uv L)[i * 2 + j]? = (uv1 L[i])[j]? := by
  induction L generalizing i with
  | nil => simp at h
  | cons x r ih =>
    have e : uv (x :: r) = uv1 x ++ uv r := rfl
    have l3 : (uv1 x).length = 2 := rfl
    rw [e]
    cases i with
    | zero => rw [List.getElem?_append_left (by omega)]; simp
    | succ i =>
      rw [List.getElem?_append_right (by omega), show (i + 1) * 2 + j - (uv1 x).length = i * 2 + j by omega]
      exact ih (by simpa using h)
theorem uv_cells (L : List Ou) : ∀ v ∈ uv L, v.oneCell' = true := by
  intro v hv
  simp only [uv, List.mem_flatMap] at hv
  obtain ⟨x, _, hx⟩ := hv
  simp only [uv1, List.mem_cons, List.not_mem_nil, or_false] at hx
  rcases hx with rfl | rfl <;> rfl
theorem info_ou : (Tryz.prog.info? 62).map (fun i => (i.zero, i.size, i.bytes)) = some (some (.agg #[.int .i64 0, .string ⟨#[]⟩]), 2, 24) := by kernel_rfl
/-- an array of the call's own -/
abbrev MineO (w : World) (B : Nat) (v : Value) (L : List Ou) : Prop := w.ownsRow B 62 2 v L.length (uv L)
/-- a slice that holds what is done -/
structure Outs (w : World) (L : List Ou) (p : Option Addr) (c : Nat) : Prop where
  cap : L.length ≤ c
  max : c ≤ maxLen
  cells : L = [] ∨ ∃ b o, p = some ⟨b, o, none⟩ ∧ b < w.heap.size ∧ ∀ i (hi : i < L.length), w.cell? ⟨b, o + i * 2, none⟩ = some (.int .i64 L[i].1) ∧ w.cell? ⟨b, o + i * 2 + 1, none⟩ = some (.string ⟨L[i].2.toArray⟩)
theorem Outs.below {w w' : World} {L : List Ou} {p : Option Addr} {c : Nat} (h : Outs w L p c) (hb : Below w.heap.size w w') : Outs w' L p c :=
  ⟨h.cap, h.max, h.cells.imp id fun ⟨b, o, e, hl, k⟩ => ⟨b, o, e, Nat.lt_of_lt_of_le hl hb.size, fun i hi => by
    obtain ⟨k0, k1⟩ := k i hi
    exact ⟨(hb.cell (p := ⟨b, _, none⟩) hl).trans k0, (hb.cell (p := ⟨b, _, none⟩) hl).trans k1⟩⟩⟩
theorem MineO.outs {w : World} {B : Nat} {v : Value} {L : List Ou} (h : MineO w B v L) : ∃ p c, v = .slice p L.length c ∧ Outs w L p c := by
  have hc := @World.ownsRow.cells _ _ _ _ _ _ _ h
  rcases h.2 with ⟨rfl, h0⟩ | ⟨g, cap, cur, rfl, _, hh, h3, h4, _⟩
  · exact ⟨none, 0, by rw [h0], by omega, by unfold maxLen; omega, .inl (List.eq_nil_of_length_eq_zero h0)⟩
  · refine ⟨_, cap, rfl, h3, h4, .inr ⟨g, 0, rfl, at_lt hh, fun i hi => ?_⟩⟩
    have e0 := uv_get hi 0 (by omega)
    have e1 := uv_get hi 1 (by omega)
    have a0 := hc (g := g) rfl _ _ (e0.trans rfl)
    have a1 := hc (g := g) rfl _ _ (e1.trans rfl)
    rw [add0] at a0 a1
    rw [Nat.zero_add]
    exact ⟨a0, a1⟩
theorem mineO_nil (w : World) (B : Nat) : MineO w B (.slice none 0 0) [] := World.ownsRow_nil _ _ _ _
theorem mineO_below {w w' : World} {B : Nat} {v : Value} {L : List Ou} (h : MineO w B v L) (hb : Below w.heap.size w w') : MineO w' B v L := own_below h hb
theorem mineO_base {w : World} {B B' : Nat} {v : Value} {L : List Ou} (h : MineO w B' v L) (hb : B ≤ B') : MineO w B v L := ⟨h.1, h.2.imp id fun ⟨g, cap, cur, hv, hg, r⟩ => ⟨g, cap, cur, hv, by omega, r⟩⟩
theorem mineO_more {w : World} {B n : Nat} {v : Value} {L : List Ou} {x : Ou} (h : w.ownsRow B 62 2 v (n + 1) (uv L ++ [.int .i64 x.1, .string ⟨x.2.toArray⟩])) (hn : n = L.length) : MineO w B v (L ++ [x]) := by
  subst hn
  unfold MineO
  rw [List.length_append, uv_app, uv_one]
  exact h
theorem mineO_m {w : World} {B m : Nat} {v : Value} {L : List Ou} (h : MineO w B v L) (hm : L.length = m) : w.ownsRow B 62 2 v m (uv L) := by subst hm; exact h
/-- a new array of one -/
theorem mineO_one (w : World) (x : Ou) (g : Nat) (hg : g = w.heap.size) : MineO (w.alloc (.cells #[.int .i64 x.1, .string ⟨x.2.toArray⟩] 62 (0, 0))) w.heap.size (.slice (some ⟨g, 0, none⟩) 1 1) [x] := by
  subst hg
  exact ⟨by simp [uv, uv1], .inr ⟨_, _, #[.int .i64 x.1, .string ⟨x.2.toArray⟩], rfl, Nat.le_refl _, at_new w _, Nat.le_refl _, by unfold maxLen; omega, by simp, by simp [uv, uv1]⟩⟩
/-- what lies in a row of the call's own stays, whatever is done to blocks ahead of it -/
theorem mineO_stay {w : World} {B : Nat} {v : Value} {L : List Ou} {S : Nat → Prop} (h : MineO w B v L) (hS : ∀ g, v.ownBlock = some g → ¬ S g) : ∃ p c, v = .slice p L.length c ∧ ∀ W, Out S w W → Outs W L p c := by
  obtain ⟨p, c, rfl, _⟩ := h.outs
  refine ⟨p, c, rfl, fun W ho => ?_⟩
  obtain ⟨p', c', e, h4⟩ := MineO.outs (show MineO W B _ L from own_out h ho fun k hk => hS k hk)
  simp at e
  rw [e.1, e.2]
  exact h4
theorem mineO_at {w : World} {B : Nat} {v : Value} {L : List Ou} {S : Nat → Prop} (h : MineO w B v L) (hS : ∀ i, S i → i < B) : ∀ g, v.ownBlock = some g → ¬ S g := fun g hg hs => by
  have := (own_lt h hg).1
  have := hS g hs
  omega

theorem mineO_src {w : World} {B : Nat} {v : Value} {L : List Ou} (h : MineO w B v L) : ∃ ao c, v = .slice ao L.length c ∧ (ao = none → L.length = 0 ∧ c = 0) ∧ ∀ ad, ao = some ad → ∀ j u, (uv L)[j]? = some u → w.cell? (ad.add j) = some u := by
  have hc := @World.ownsRow.cells _ _ _ _ _ _ _ h
  rcases h.2 with ⟨rfl, h0⟩ | ⟨g, cap, cur, rfl, _, hh, h3, h4, _⟩
  · exact ⟨none, 0, by rw [h0], fun _ => ⟨h0, rfl⟩, fun ad e => by cases e⟩
  · refine ⟨_, cap, rfl, (fun e => by cases e), ?_⟩
    rintro ad ⟨⟩ j u hu
    exact hc (g := g) rfl j u hu

/-! ### a line -/
def toldV : Value := .func (.func 23) #[] #[]
structure MemAt (w : World) (k : Nat) (S : Nat → Prop) (x : Ln) (kw : Nat) (pF : Option Addr) (cF : Nat) (sv : Value) : Prop where
  row : w.heap[k]? = some (.cells #[.pointer (some ⟨kw, 0, none⟩), .slice pF x.F.length cF, toldV, .int .i64 x.st, .int .i64 x.un, sv, .string ⟨x.H.toArray⟩] 47 (0, 0))
  own : S k
  ownw : S kw
  ne : kw ≠ k
  wait : IsW w kw x.b x.c x.j (x.n + 1)
  lt : ∀ i, S i → i < w.heap.size
  first : ∀ W, Out S w W → Ops W x.F pF cF
  run : goes x → ∃ kb kq, sv = .pointer (some ⟨kb, 0, none⟩) ∧ S kb ∧ kb ≠ k ∧ kb ≠ kw ∧ ¬ S kq ∧ Asked w kb kq x.D x.E x.was
  good : Good x
/-- block k is a line, S its own blocks -/
def Mem (w : World) (k : Nat) (S : Nat → Prop) (x : Ln) : Prop := ∃ kw pF cF sv, MemAt w k S x kw pF cF sv
theorem Mem.good {w : World} {k : Nat} {S : Nat → Prop} {x : Ln} (h : Mem w k S x) : Good x := by obtain ⟨_, _, _, _, h⟩ := h; exact h.good
theorem Mem.lt {w : World} {k : Nat} {S : Nat → Prop} {x : Ln} (h : Mem w k S x) : ∀ i, S i → i < w.heap.size := by obtain ⟨_, _, _, _, h⟩ := h; exact h.lt
theorem Mem.k_lt {w : World} {k : Nat} {S : Nat → Prop} {x : Ln} (h : Mem w k S x) : k < w.heap.size := by obtain ⟨_, _, _, _, h⟩ := h; exact h.lt k h.own
/-- what a call may do: to the line's blocks, and to new ones -/
structure Step (S : Nat → Prop) (w : World) (S' : Nat → Prop) (w' : World) : Prop where
  out : Out S w w'
  new : ∀ i, S' i → S i ∨ w.heap.size ≤ i
theorem Step.refl (S : Nat → Prop) (w : World) : Step S w S w := ⟨Out.refl _ _, fun _ h => .inl h⟩
theorem Step.ofOut {S : Nat → Prop} {w w' : World} (h : Out S w w') : Step S w S w' := ⟨h, fun _ h => .inl h⟩
theorem Step.outs {S S' S2 : Nat → Prop} {w w' W : World} (h : Step S w S' w') (k : Out S2 w' W) (hs : ∀ i, S2 i → S' i) : Out S w W := h.out.trans k fun i hi h' => (h.new i (hs i h')).resolve_right (by omega)
theorem Step.trans {S S' S'' : Nat → Prop} {w w' w'' : World} (h : Step S w S' w') (k : Step S' w' S'' w'') : Step S w S'' w'' :=
  ⟨h.outs k.out fun _ h => h, fun i hi => by
    rcases k.new i hi with h' | h'
    · exact h.new i h'
    · have := h.out.size; exact .inr (by omega)⟩
theorem Step.below {S : Nat → Prop} {w w' : World} (h : Below w.heap.size w w') : Step S w S w' := ⟨Out.ofNew h, fun _ h => .inl h⟩
theorem Step.size {S S' : Nat → Prop} {w w' : World} (h : Step S w S' w') : w.heap.size ≤ w'.heap.size := h.out.size
theorem Step.base {S S' : Nat → Prop} {w w' : World} {B : Nat} (h : Step S w S' w') (hB : B ≤ w.heap.size) (hS : ∀ i, S i → B ≤ i) : Below B w w' := h.out.below hB hS
/-- what stays -/
theorem Step.stays {S S' : Nat → Prop} {w w' : World} {P : World → Prop} (h : Step S w S' w') (hP : ∀ W, Out S w W → P W) : ∀ W, Out S' w' W → P W := fun W ho => hP W (h.outs ho fun _ h => h)
section
variable {w w' : World} {k kw cF : Nat} {S : Nat → Prop} {x : Ln} {pF : Option Addr} {sv : Value}
theorem MemAt.below (h : MemAt w k S x kw pF cF sv) (hb : Below w.heap.size w w') : MemAt w' k S x kw pF cF sv :=
  ⟨(hb.block k (h.lt k h.own)).trans h.row, h.own, h.ownw, h.ne, h.wait.below hb, fun i hi => Nat.lt_of_lt_of_le (h.lt i hi) hb.size, fun W ho => h.first W ((Out.ofNew hb).trans ho fun _ _ h => h), fun hg => by
    obtain ⟨kb, kq, e, h1, h2, h3, h4, h5⟩ := h.run hg
    exact ⟨kb, kq, e, h1, h2, h3, h4, IsRun.below h5 hb⟩, h.good⟩
theorem Mem.below (h : Mem w k S x) (hb : Below w.heap.size w w') : Mem w' k S x := by
  obtain ⟨kw, pF, cF, sv, h⟩ := h
  exact ⟨kw, pF, cF, sv, h.below hb⟩
/-- the line's own row was written -/
theorem MemAt.set {x' : Ln} {sv' : Value} (h : MemAt w k S x kw pF cF sv) (hr : w'.heap[k]? = some (.cells #[.pointer (some ⟨kw, 0, none⟩), .slice pF x'.F.length cF, toldV, .int .i64 x'.st, .int .i64 x'.un, sv', .string ⟨x'.H.toArray⟩] 47 (0, 0)))
    (ho : Out (fun i => i = k) w w') (eF : x'.F = x.F) (eb : x'.b = x.b) (ec : x'.c = x.c) (ej : x'.j = x.j) (en : x'.n = x.n) (hrun : goes x' → goes x ∧ sv' = sv ∧ x'.D = x.D ∧ x'.E = x.E ∧ x'.was = x.was) (hg : Good x') : MemAt w' k S x' kw pF cF sv' := by
  refine ⟨hr, h.own, h.ownw, h.ne, ?_, fun i hi => Nat.lt_of_lt_of_le (h.lt i hi) ho.size, fun W hW => ?_, fun hgo => ?_, hg⟩
  · rw [eb, ec, ej, en]; exact h.wait.out ho h.ne
  · rw [eF]; exact h.first W ((ho.mono fun i _ e => by rw [e]; exact h.own).trans hW fun _ _ h => h)
  · obtain ⟨g1, e1, e2, e3, e4⟩ := hrun hgo
    obtain ⟨kb, kq, e, h1, h2, h3, h4, h5⟩ := h.run g1
    refine ⟨kb, kq, e1.trans e, h1, h2, h3, h4, ?_⟩
    rw [e2, e3, e4]
    exact IsRun.out h5 ho h2 fun e => h4 (by rw [e]; exact h.own)
/-- its wait was told something -/
theorem MemAt.turned {n' : Nat} (h : MemAt w k S x kw pF cF sv) (hw : IsW w' kw x.b x.c x.j (n' + 1)) (ho : Out (fun i => i = kw) w w') : MemAt w' k S { x with n := n' } kw pF cF sv := by
  refine ⟨ho.at_ h.row fun e => h.ne e.symm, h.own, h.ownw, h.ne, hw, fun i hi => Nat.lt_of_lt_of_le (h.lt i hi) ho.size, fun W hW => h.first W ((ho.mono fun i _ e => by rw [e]; exact h.ownw).trans hW fun _ _ h => h), fun hgo => ?_, ⟨h.good.rule, h.good.st, h.good.held, h.good.few, h.good.first, h.good.run, h.good.un⟩⟩
  obtain ⟨kb, kq, e, h1, h2, h3, h4, h5⟩ := h.run hgo
  exact ⟨kb, kq, e, h1, h2, h3, h4, IsRun.out h5 ho h3 fun e => h4 (by rw [e]; exact h.ownw)⟩
/-- its steps were asked, and go on -/
theorem MemAt.asked {kb kq : Nat} {now : Int} (h : MemAt w k S x kw pF cF (.pointer (some ⟨kb, 0, none⟩))) (hg : goes x) (hb : S kb) (n1 : kb ≠ k) (n2 : kb ≠ kw) (n3 : ¬ S kq) (hA : Asked w' kb kq x.D x.E now) (ho : Out (fun i => i = kb) w w') (hE : now < x.E) : MemAt w' k S { x with was := now } kw pF cF (.pointer (some ⟨kb, 0, none⟩)) :=
  ⟨ho.at_ h.row fun e => n1 e.symm, h.own, h.ownw, h.ne, h.wait.out ho fun e => n2 e.symm, fun i hi => Nat.lt_of_lt_of_le (h.lt i hi) ho.size, fun W hW => h.first W ((ho.mono fun i _ e => by rw [e]; exact hb).trans hW fun _ _ h => h), fun _ => ⟨kb, kq, rfl, hb, n1, n2, n3, hA⟩, ⟨h.good.rule, h.good.st, h.good.held, h.good.few, h.good.first, fun _ => ⟨hE, (h.good.run hg).2⟩, h.good.un⟩⟩
/-- it was brought to rest -/
theorem MemAt.calmed {s : Int} (h : MemAt w k S x kw pF cF sv) (ho : Out S w w') (hw : w'.heap[kw]? = w.heap[kw]?) (hr : w'.heap[k]? = some (.cells #[.pointer (some ⟨kw, 0, none⟩), .slice pF x.F.length cF, toldV, .int .i64 s, .int .i64 0, .pointer none, .string ⟨#[]⟩] 47 (0, 0))) (hs : 0 ≤ s ∧ s ≤ 5) (h3 : s ≠ 3) (h5 : s ≠ 5) : MemAt w' k S (calm x s) kw pF cF (.pointer none) :=
  ⟨hr, h.own, h.ownw, h.ne, hw.trans h.wait, fun i hi => Nat.lt_of_lt_of_le (h.lt i hi) ho.size, fun W hW => h.first W (ho.trans hW fun _ _ h => h), fun hg => by rcases hg with e | e <;> simp [calm] at e <;> omega, good_calm h.good s hs h3 h5⟩
end
/-- what a call answers that tells what is done, and leaves -/
def Gives (w : World) (k : Nat) (S : Nat → Prop) (y : Ln) (O : List Ou) (e : Ending) (w' : World) : Prop :=
  ∃ S' p c, e = .returned (.slice p O.length c) ∧ Mem w' k S' y ∧ Step S w S' w' ∧ ∀ W, Out S' w' W → Outs W O p c
end Go.Proofs.YtnkhdpenmekhdaaGreat.Lin
end

section
namespace Go.Proofs.YtnkhdpenmekhdaaGreat.Calc
open Go.RowKit

theorem ris_calls (n : Int) (w : World) :
    Calls Tryz.prog 94 #[.int .i64 n] w fun e w' => e = .returned (.bool (isT n)) ∧ w = w' := by
  by_cases h0 : 0 ≤ n
  · by_cases h1 : n ≤ 1099511627776
    · go_enter Tryz.func94, Tryz.ntmps94
      go_wp2
      go_ret
      exact ⟨ret_bool (by rw [isT_iff.2 ⟨h0, h1⟩]), rfl⟩
    · go_enter Tryz.func94, Tryz.ntmps94
      go_wp2
      go_ret
      exact ⟨ret_bool (by rw [isT_not.2 (by omega)]), rfl⟩
  · go_enter Tryz.func94, Tryz.ntmps94
    go_wp2
    go_ret
    exact ⟨ret_bool (by rw [isT_not.2 (by omega)]), rfl⟩

theorem rdbl_calls (base n most : Int) (w : World) :
    Calls Tryz.prog 88 #[.int .i64 base, .int .i64 n, .int .i64 most] w fun e w' => e = .returned (.tuple #[.int .i64 (dblV base n most), .int .i64 (dblC base n most)]) ∧ w = w' := by
  cases ha : isT base
  · have H : Hid (dblB base n most = false) := Lib.hid (by unfold dblB; rw [ha]; rfl)
    go_enter Tryz.func88, Tryz.ntmps88
    go_wp2_with (go_at_call 94; refine (ris_calls _ _).mono ?_; rintro e w' ⟨rfl, rfl⟩)
    go_ret2
    exact ⟨ret_two (by rw [dblV, H.out]; rfl) (by rw [dblC, H.out]; rfl), rfl⟩
  · cases hb : isT most
    · have H : Hid (dblB base n most = false) := Lib.hid (by unfold dblB; rw [ha, hb]; rfl)
      go_enter Tryz.func88, Tryz.ntmps88
      go_wp2_with (go_at_call 94; refine (ris_calls _ _).mono ?_; rintro e w' ⟨rfl, rfl⟩)
      go_ret2
      exact ⟨ret_two (by rw [dblV, H.out]; rfl) (by rw [dblC, H.out]; rfl), rfl⟩
    · by_cases hm : most < base
      · have H : Hid (dblB base n most = false) := Lib.hid (by unfold dblB; rw [ha, hb, decide_eq_false (by omega)]; rfl)
        go_enter Tryz.func88, Tryz.ntmps88
        go_wp2_with (go_at_call 94; refine (ris_calls _ _).mono ?_; rintro e w' ⟨rfl, rfl⟩)
        go_ret2
        exact ⟨ret_two (by rw [dblV, H.out]; rfl) (by rw [dblC, H.out]; rfl), rfl⟩
      · by_cases hn : n < 0
        · have H : Hid (dblB base n most = false) := Lib.hid (by unfold dblB; rw [decide_eq_false (p := 0 ≤ n) (by omega)]; simp)
          go_enter Tryz.func88, Tryz.ntmps88
          go_wp2_with (go_at_call 94; refine (ris_calls _ _).mono ?_; rintro e w' ⟨rfl, rfl⟩)
          go_ret2
          exact ⟨ret_two (by rw [dblV, H.out]; rfl) (by rw [dblC, H.out]; rfl), rfl⟩
        · obtain ⟨a0, a1⟩ := isT_iff.1 ha
          obtain ⟨b0, b1⟩ := isT_iff.1 hb
          have n0 : 0 ≤ n := by omega
          have H : Hid (dblB base n most = true) := Lib.hid (dblB_iff.2 ⟨ha, hb, by omega, n0⟩)
          have HC : Hid (dbl base (min n.toNat 64) most = dbl base n.toNat most) := Lib.hid (dbl_cap base most n a0 (by omega) b1)
          go_enter Tryz.func88, Tryz.ntmps88
          go_wp2_with (go_at_call 94; refine (ris_calls _ _).mono ?_; rintro e w' ⟨rfl, rfl⟩)
          go_loop [0, 8] (fun x i => ∃ k : Nat, k ≤ min n.toNat 64 ∧ i = .int .i64 k ∧ x = .int .i64 (dbl base k most)) (fun _ i => 64 - (intOf i).toNat)
          case atStart => exact ⟨0, by omega, rfl, by rw [show dbl base 0 most = base by unfold dbl; simp; omega]⟩
          case round =>
            obtain ⟨k, hk, rfl, rfl⟩ := hrel
            have hmo := dbl_mono base k most a0 (by omega)
            have HS : Hid (dbl base (k + 1) most = min (dbl base k most + dbl base k most) most) := Lib.hid (dbl_succ base k most a0 b0)
            by_cases hlt : (k : Int) < n
            · by_cases h64 : k < 64
              · by_cases hmin : dbl base k most + dbl base k most < most
                all_goals
                  go_wp2
                  go_round
                  case rel => exact ⟨k + 1, by omega, by go_num, by rw [HS.out] <;> go_num⟩
                  case measure => simp [intOf]; omega
              · go_wp2
                go_ret2
                exact ⟨ret_two (by rw [dblV, H.out, ← HC.out, show min n.toNat 64 = k by omega]; rfl) (by rw [dblC, H.out]; rfl), rfl⟩
            · go_wp2
              go_ret2
              exact ⟨ret_two (by rw [dblV, H.out, ← HC.out, show min n.toNat 64 = k by omega]; rfl) (by rw [dblC, H.out]; rfl), rfl⟩
end Go.Proofs.YtnkhdpenmekhdaaGreat.Calc
end

section
namespace Go.Proofs.YtnkhdpenmekhdaaGreat.Bkf
open Go.RowKit Go.Proofs.YtnkhdpenmekhdaaGreat.Own Go.Proofs.YtnkhdpenmekhdaaGreat.Rw Go.Proofs.YtnkhdpenmekhdaaGreat.Calc

theorem ret_int' {a b : Int} (h : a = b) : Ending.returned (.int .i64 a) = .returned (.int .i64 b) := by rw [h]
set_option maxHeartbeats 1000000 in
theorem rlow_calls (b c j : Int) (h : okR b c j) (n : Nat) (w : World) :
    Calls Tryz.prog 79 #[.int .i64 b, .int .i64 c, .int .i64 n] w fun e w' => e = .returned (.int .i64 (lowR b c n)) ∧ w = w' := by
  have HV := Lib.hid (low_val h n)
  clear h
  go_enter Tryz.func79, Tryz.ntmps79
  go_wp2_with fail
  refine (rdbl_calls b n c w).mono ?_
  rintro e w' ⟨rfl, rfl⟩
  rw [HV.out]
  go_wp2_with fail
  go_ret
  exact ⟨rfl, rfl⟩
end Go.Proofs.YtnkhdpenmekhdaaGreat.Bkf
end

section
namespace Go.Proofs.YtnkhdpenmekhdaaGreat.Bkf
open Go.RowKit Go.Proofs.YtnkhdpenmekhdaaGreat.Own Go.Proofs.YtnkhdpenmekhdaaGreat.Rw Go.Proofs.YtnkhdpenmekhdaaGreat.Calc

set_option maxHeartbeats 1000000 in
theorem rcheck_calls (b c j : Int) (w : World) :
    Calls Tryz.prog 24 #[.int .i64 b, .int .i64 c, .int .i64 j] w fun e w' => e = .returned (.int .i64 (chkR b c j)) ∧ w = w' := by
  by_cases h : okR b c j
  · have H := Lib.hid (chk_ok h)
    obtain ⟨h1, h2, h3, h4, h5, h6⟩ := h
    go_enter Tryz.func24, Tryz.ntmps24
    go_wp2
    go_ret
    exact ⟨ret_int' H.out.symm, rfl⟩
  · have H := Lib.hid (chk_no h)
    have hs : ¬ 1 ≤ b ∨ (1 ≤ b ∧ ¬ b ≤ 3600) ∨ (1 ≤ b ∧ b ≤ 3600 ∧ ¬ b ≤ c) ∨ (1 ≤ b ∧ b ≤ 3600 ∧ b ≤ c ∧ ¬ c ≤ 86400) ∨ (1 ≤ b ∧ b ≤ 3600 ∧ b ≤ c ∧ c ≤ 86400 ∧ ¬ 0 ≤ j) ∨ (1 ≤ b ∧ b ≤ 3600 ∧ b ≤ c ∧ c ≤ 86400 ∧ 0 ≤ j ∧ ¬ j ≤ 3600) := by unfold okR at h; omega
    clear h
    rcases hs with h1 | ⟨h1, h2⟩ | ⟨h1, h2, h3⟩ | ⟨h1, h2, h3, h4⟩ | ⟨h1, h2, h3, h4, h5⟩ | ⟨h1, h2, h3, h4, h5, h6⟩ <;>
    · go_enter Tryz.func24, Tryz.ntmps24
      go_wp2
      go_ret
      exact ⟨ret_int' H.out.symm, rfl⟩
/-- whether that is a tick -/
def atB (b c j : Int) (n : Nat) (now r : Int) : Bool := decide (atR b c j n now r ≤ 1099511627776)
set_option maxHeartbeats 1000000 in
theorem rat_calls (b c j : Int) (h : okR b c j) (n : Nat) (now r : Int) (hn : isT now = true) (w : World) :
    Calls Tryz.prog 66 #[.int .i64 b, .int .i64 c, .int .i64 j, .int .i64 n, .int .i64 now, .int .i64 r] w fun e w' => e = .returned (.tuple #[.int .i64 (atR b c j n now r), .bool (atB b c j n now r)]) ∧ w = w' := by
  have HL := Lib.hid (rlow_calls b c j h n)
  obtain ⟨n0, n1⟩ := isT_iff.1 hn
  have hl := low_rng h n
  obtain ⟨g1, g2, g3, g4, g5, g6⟩ := h
  obtain ⟨h2, h3, h4, h5⟩ := lf_tmod (r := r) (m := j + 1) (by omega)
  have hm : (j + 1 == 0) = false := by simp; omega
  have hr := lf_rng (r := r) (m := j + 1) (by omega)
  have HA : Hid (atR b c j n now r = now + lowR b c n + lf r (j + 1)) := Lib.hid rfl
  have HB : Hid (atB b c j n now r = decide (atR b c j n now r ≤ 1099511627776)) := Lib.hid rfl
  generalize atR b c j n now r = av at *
  generalize atB b c j n now r = ab at *
  generalize lowR b c n = lv at *
  by_cases ht : Int.tmod r (j + 1) < 0
  · have H := Lib.hid (h2 ht)
    clear h2 h3 hn
    go_enter Tryz.func66, Tryz.ntmps66
    go_wp2_with (go_at_call 79; refine (HL.out _).mono ?_; rintro e w' ⟨rfl, rfl⟩)
    go_ret2
    have := HA.out
    have := H.out
    exact ⟨by rw [HB.out, HA.out, H.out]; simp [← Int.add_assoc], rfl⟩
  · have H := Lib.hid (h3 ht)
    clear h2 h3 hn
    go_enter Tryz.func66, Tryz.ntmps66
    go_wp2_with (go_at_call 79; refine (HL.out _).mono ?_; rintro e w' ⟨rfl, rfl⟩)
    go_ret2
    exact ⟨by rw [HB.out, HA.out, H.out]; rfl, rfl⟩
end Go.Proofs.YtnkhdpenmekhdaaGreat.Bkf
end

section
namespace Go.Proofs.YtnkhdpenmekhdaaGreat.Run
open Go.RowKit Go.Proofs.YtnkhdpenmekhdaaGreat.Own Go.Proofs.YtnkhdpenmekhdaaGreat.Brk Go.Proofs.YtnkhdpenmekhdaaGreat.Calc

set_option maxRecDepth 100000 in
set_option maxHeartbeats 4000000 in
theorem rcheck_calls (l : List Op) (n : Nat) (hn : l.length = n) (now : Int) (p : Option Addr) (c : Nat) (w : World) (h : Ops w l p c) :
    Calls Tryz.prog 53 #[.slice p n c, .int .i64 now] w fun e w' => e = .returned (.int .i64 (chk now l)) ∧ Below w.heap.size w w' := by
  have hcap := h.cap
  have hmax := h.max
  unfold maxLen at hmax
  have q2 : (n : Int) ≤ 9223372036854775807 := by omega
  have HH := Lib.hid h
  have HN := Lib.hid hn
  clear h
  cases hT : isT now
  · have hC := Lib.hid (chk_out (l := l) hT)
    rcases isT_not.1 hT with h0 | h0
    · clear hT
      go_enter Tryz.func53, Tryz.ntmps53
      go_wp2_with fail
      go_ret
      exact ⟨ret_int hC.out.symm, Below.refl _ _⟩
    · have h1 : ¬ now < 0 := by omega
      clear hT
      go_enter Tryz.func53, Tryz.ntmps53
      go_wp2_with fail
      go_ret
      exact ⟨ret_int hC.out.symm, Below.refl _ _⟩
  · have hC := Lib.hid (chk_in (l := l) hT)
    obtain ⟨t0, t1⟩ := isT_iff.1 hT
    have HT := Lib.hid hT
    clear hT
    go_enter Tryz.func53, Tryz.ntmps53
    go_wp2_with fail
    go_loopw [5, 6] (fun u i wr => ∃ (k : Nat) (r : Int), k ≤ n ∧ i = .int .i64 k ∧ u = .int .i64 r ∧ 0 ≤ r ∧ r ≤ 1099511627776 ∧ Hid (go now l = go (1099511627776 - r) (l.drop k)) ∧ Below w.heap.size w wr) (fun _ i _ => n - (intOf i).toNat)
    case atStart => exact ⟨0, 1099511627776 - now, Nat.zero_le _, rfl, rfl, by omega, by omega, Lib.hid (by rw [show (1099511627776 : Int) - (1099511627776 - now) = now by omega, List.drop_zero]), Below.refl _ _⟩
    case round =>
      obtain ⟨k, r, hk, rfl, rfl, r0, r1, HG, hB⟩ := hrel
      rcases Nat.lt_or_eq_of_le hk with hlt | rfl
      · have hkl : k < l.length := by rw [HN.out]; exact hlt
        rcases HH.out.cells with h0 | ⟨b, o, rfl, hbl, hc⟩
        · rw [h0] at hkl; simp at hkl
        · obtain ⟨c0, c1, c2⟩ := hc k hkl
          rw [← hB.cell (p := ⟨b, _, none⟩) hbl] at c0 c1 c2
          have q1 : (k : Int) < (n : Int) := by omega
          have HD := Lib.hid (drop_at hkl)
          have hsz := hB.size
          generalize hx : l[k] = x at *
          clear hc hx
          have HK := kinds x
          have HF := Lib.hid (fun (hI : Is x) => ov_fit (a := 1099511627776 - r) (isT_iff.2 (by omega)) hI)
          obtain ⟨xk, xs, xn⟩ := x
          simp only at c0 c1 c2 HK
          rcases HK with ⟨HI, HK⟩ | ⟨HI, HK⟩
          · have HE := Lib.hid (show go now l = 1 by rw [HG.out, HD.out, go_no (by rw [ov_no HI]; omega), ov_no HI])
            clear HI HF HG
            rcases HK with ⟨k1, k2, k3⟩ | ⟨rfl, rfl⟩ | ⟨rfl, s1, n1⟩ | ⟨rfl, s1⟩ | ⟨rfl, rfl, n1⟩ | ⟨rfl, s1⟩ | ⟨rfl, rfl, n1⟩ <;>
            · go_wp2_with fail
              go_ret
              exact ⟨ret_int (by rw [hC.out, HE.out]), hB.alloc hsz _⟩
          · have hn0 : 0 ≤ xn := is_n HI
            by_cases hf : xn ≤ r
            · have HE := Lib.hid (show go now l = go (1099511627776 - (r - xn)) (l.drop (k + 1)) by
                rw [HG.out, HD.out, go_ok (ov_ok HI ((HF.out HI).2 (by show 1099511627776 - r + xn ≤ _; omega)))]
                show go (1099511627776 - r + xn) _ = _
                rw [show 1099511627776 - r + xn = 1099511627776 - (r - xn) by omega])
              clear HI HF HG
              rcases HK with ⟨rfl, s1, rfl⟩ | ⟨rfl, rfl, n1⟩ | ⟨rfl, rfl, rfl⟩ <;>
              · go_wp2_with fail
                go_roundw
                case rel => exact ⟨k + 1, _, by omega, by go_num, rfl, by omega, by omega, by first | exact HE | simpa using HE, hB.alloc hsz _⟩
                case measure => simp [intOf]; omega
            · have HE := Lib.hid (show go now l = 2 by
                rw [HG.out, HD.out, go_no (by rw [ov_far HI (fun hc => hf (by have := (HF.out HI).1 hc; simp only at this; omega))]; omega), ov_far HI (fun hc => hf (by have := (HF.out HI).1 hc; simp only at this; omega))])
              have hf2 : r < xn := by omega
              clear HI HF HG hf
              rcases HK with ⟨rfl, s1, rfl⟩ | ⟨rfl, rfl, n1⟩ | ⟨rfl, rfl, rfl⟩
              · omega
              · go_wp2_with fail
                go_ret
                exact ⟨ret_int (by rw [hC.out, HE.out]), hB.alloc hsz _⟩
              · omega
      · have HE := Lib.hid (show go now l = 0 by rw [HG.out, List.drop_eq_nil_of_le (by rw [HN.out]; exact Nat.le_refl _)]; rfl)
        go_wp2_with fail
        go_ret
        exact ⟨ret_int (by rw [hC.out, HE.out]), hB⟩
end Go.Proofs.YtnkhdpenmekhdaaGreat.Run
end

section
namespace Go.Proofs.YtnkhdpenmekhdaaGreat.Run
open Go.RowKit Go.Proofs.YtnkhdpenmekhdaaGreat.Own Go.Proofs.YtnkhdpenmekhdaaGreat.Brk Go.Proofs.YtnkhdpenmekhdaaGreat.Calc

set_option maxRecDepth 100000 in
set_option maxHeartbeats 4000000 in
theorem rdue_calls (l : List Op) (n : Nat) (hn : l.length = n) (hn2 : n ≤ 1000) (start behind now : Int) (hT : isT start = true) (hg : go start l = 0) (p : Option Addr) (c : Nat) (w : World) (h : Ops w l p c) :
    Calls Tryz.prog 67 #[.slice p n c, .int .i64 start, .int .i64 behind, .int .i64 now] w (DuePost l start behind now w) := by
  obtain ⟨i0, hi, hz0, hz1, hz2⟩ := info_parts info_op
  have hcap := h.cap
  have hmax := h.max
  unfold maxLen at hmax
  have q2 : (n : Int) ≤ 9223372036854775807 := by omega
  have HH := Lib.hid h
  have HN := Lib.hid hn
  have HT := Lib.hid hT
  have HG0 := Lib.hid hg
  clear h hT hg
  go_enter Tryz.func67, Tryz.ntmps67
  go_wp2_with fail
  go_loopw [9, 10, 11] (fun v u i wr => ∃ (k : Nat) (a : Int) (acc : List Op), k ≤ n ∧ i = .int .i64 k ∧ u = .int .i64 a ∧ DueAt l start behind now w wr v a k acc) (fun _ _ i _ => n - (intOf i).toNat)
  case atStart => exact ⟨0, start, [], Nat.zero_le _, rfl, rfl, mine_nil _ _, Below.refl _ _, Nat.le_refl _, HT.out, HG0.out, rfl⟩
  case round =>
    obtain ⟨k, a, acc, hk, rfl, rfl, C⟩ := hrel
    rcases Nat.lt_or_eq_of_le hk with hlt | rfl
    · have hkl : k < l.length := by rw [HN.out]; exact hlt
      rcases HH.out.cells with h0 | ⟨b, o, rfl, hbl, hc⟩
      · rw [h0] at hkl; simp at hkl
      · obtain ⟨c0, c1, c2⟩ := hc k hkl
        rw [← C.below.cell (p := ⟨b, _, none⟩) hbl] at c0 c1 c2
        have q1 : (k : Int) < (n : Int) := by omega
        have HD := Lib.hid (drop_at hkl)
        have g2 := C.good
        rw [HD.out] at g2
        obtain ⟨i1, i2⟩ := go_inv g2
        have i3 := ov_tick i1
        obtain ⟨j0, j1⟩ := isT_iff.1 i3
        obtain ⟨j2, j3⟩ := isT_iff.1 C.tick
        have hz := is_nought (ov_inv i1).1
        have hlen := C.len
        generalize l[k] = x at *
        have HC := Lib.hid C
        clear hc C g2 i1 i2 i3
        obtain ⟨xk, xs, xn⟩ := x
        simp only at c0 c1 c2 j0 j1 hz
        by_cases hk2 : xk = 2
        · subst hk2
          have HS := Lib.hid (fun (wr' : World) (hb : Below _ _ wr') => HC.out.skip HD.out (.inl rfl) hb)
          clear hz
          go_wp2_with fail
          go_roundw
          case rel => exact ⟨k + 1, _, _, by omega, by go_num, rfl, HS.out _ (Below.refl _ _)⟩
          case measure => simp [intOf]; omega
        · obtain rfl := hz hk2
          have k2 : (xk == 2) = false := by simpa using hk2
          have HK := Lib.hid hk2
          clear hz hk2
          rw [Int.add_zero] at j0 j1
          by_cases hb1 : behind < a
          · by_cases hb2 : a ≤ now
            · have HO := Lib.hid HC.out.own
              have hsz := HC.out.below.size
              obtain ⟨m, hm⟩ : ∃ m, acc.length = m := ⟨_, rfl⟩
              have hml : m ≤ k := by omega
              have HM := Lib.hid hm
              have HO2 := Lib.hid (mine_m HO.out hm)
              clear hm hlen
              go_wp2_with (at_builtin; go_loud (refine Own.append_any rfl (.tmp 42) (.tmp 47) 30 rfl w.heap.size 58 i0 _ 3 32 Tryz.underlying30 hi hz0 hz1 hz2 rfl (by decide) _ _ _ rfl (World.ownsRow.alloc HO2.out _) _ 1 1 [.int .i64 xk, .string ⟨xs.toArray⟩, .int .i64 0] rfl (fun h => nomatch h) rfl (Own.three_new _ _ _ _ _ _ (by simp)) (by simp [Value.oneCell']) (by unfold maxLen; omega) (by omega) (by simp; omega) ?_; intro v' w1 hown hgr; have C1 := Lib.hid (HC.out.take HD.out HK.out hb1 hb2 (mine_more (x := ⟨xk, xs, 0⟩) hown HM.out.symm) ((HC.out.below.alloc hsz _).grown hgr (by simp; omega) (fun k hk => (World.ownsRow.lt HO2.out k hk).1))); clear hown hgr))
              go_roundw
              case rel => exact ⟨k + 1, _, _, by omega, by go_num, rfl, by simpa using C1.out⟩
              case measure => simp [intOf]; omega
            · have HS := Lib.hid (fun (wr' : World) (hb : Below _ _ wr') => HC.out.skip HD.out (.inr (.inr (by omega))) hb)
              have hb3 : decide (a ≤ now) = false := by simpa using hb2
              go_wp2_with fail
              go_roundw
              case rel => exact ⟨k + 1, _, _, by omega, by go_num, rfl, by simpa using HS.out _ (Below.refl _ _)⟩
              case measure => simp [intOf]; omega
          · have HS := Lib.hid (fun (wr' : World) (hb : Below _ _ wr') => HC.out.skip HD.out (.inr (.inl (by omega))) hb)
            have hb3 : decide (behind < a) = false := by simpa using hb1
            go_wp2_with fail
            go_roundw
            case rel => exact ⟨k + 1, _, _, by omega, by go_num, rfl, by simpa using HS.out _ (Below.refl _ _)⟩
            case measure => simp [intOf]; omega
    · have HE := Lib.hid C.left
      have HO := Lib.hid C.own
      have HB := Lib.hid C.below
      clear C
      go_wp2_with fail
      go_ret
      have he := HE.out
      rw [List.drop_eq_nil_of_le (by rw [HN.out]; exact Nat.le_refl _)] at he
      refine ⟨_, rfl, ?_, HB.out⟩
      rw [← he]
      show Mine _ _ _ (acc ++ [])
      rw [List.append_nil]; exact HO.out

set_option maxRecDepth 100000 in
set_option maxHeartbeats 4000000 in
theorem rnext_calls (l : List Op) (n : Nat) (hn : l.length = n) (start behind : Int) (hT : isT start = true) (hg : go start l = 0) (p : Option Addr) (c : Nat) (w : World) (h : Ops w l p c) :
    Calls Tryz.prog 34 #[.slice p n c, .int .i64 start, .int .i64 behind] w fun e w' => e = .returned (.tuple #[.int .i64 (nxV (dues start l) (ends start l) behind), .bool (nxB (ends start l) behind)]) ∧ w = w' := by
  have hcap := h.cap
  have hmax := h.max
  unfold maxLen at hmax
  have q2 : (n : Int) ≤ 9223372036854775807 := by omega
  have HH := Lib.hid h
  have HN := Lib.hid hn
  have HT := Lib.hid hT
  have HG0 := Lib.hid hg
  clear h hT hg
  go_enter Tryz.func34, Tryz.ntmps34
  go_wp2_with fail
  go_loopw [8, 9] (fun u i wr => ∃ (k : Nat) (a : Int), k ≤ n ∧ i = .int .i64 k ∧ u = .int .i64 a ∧ Hid (NxAt l start behind a k) ∧ wr = w) (fun _ i _ => n - (intOf i).toNat)
  case atStart => exact ⟨0, start, Nat.zero_le _, rfl, rfl, Lib.hid ⟨HT.out, HG0.out, rfl, rfl⟩, rfl⟩
  case round =>
    obtain ⟨k, a, hk, rfl, rfl, HC, rfl⟩ := hrel
    rcases Nat.lt_or_eq_of_le hk with hlt | rfl
    · have hkl : k < l.length := by rw [HN.out]; exact hlt
      rcases HH.out.cells with h0 | ⟨b, o, rfl, hbl, hc⟩
      · rw [h0] at hkl; simp at hkl
      · obtain ⟨c0, c1, c2⟩ := hc k hkl
        have q1 : (k : Int) < (n : Int) := by omega
        have HD := Lib.hid (drop_at hkl)
        have g2 := HC.out.2.1
        rw [HD.out] at g2
        obtain ⟨i1, i2⟩ := go_inv g2
        have i3 := ov_tick i1
        obtain ⟨j0, j1⟩ := isT_iff.1 i3
        obtain ⟨j2, j3⟩ := isT_iff.1 HC.out.1
        have hz := is_nought (ov_inv i1).1
        generalize l[k] = x at *
        clear hc g2 i1 i2 i3
        obtain ⟨xk, xs, xn⟩ := x
        simp only at c0 c1 c2 j0 j1 hz
        by_cases hk2 : xk = 2
        · subst hk2
          have HS := Lib.hid (HC.out.skip HD.out (.inl rfl))
          clear hz
          go_wp2_with fail
          go_roundw
          case rel => exact ⟨k + 1, _, by omega, by go_num, rfl, HS, trivial⟩
          case measure => simp [intOf]; omega
        · obtain rfl := hz hk2
          have k2 : (xk == 2) = false := by simpa using hk2
          have HK := Lib.hid hk2
          clear hz hk2
          rw [Int.add_zero] at j0 j1
          by_cases hb1 : behind < a
          · have HF := Lib.hid (HC.out.found HD.out HK.out hb1)
            go_wp2_with fail
            go_ret2
            exact ⟨ret_nx (by rw [HF.out.1]) HF.out.2.symm, rfl⟩
          · have HS := Lib.hid (HC.out.skip HD.out (.inr (by omega)))
            have hb3 : decide (behind < a) = false := by simpa using hb1
            go_wp2_with fail
            go_roundw
            case rel => exact ⟨k + 1, _, by omega, by go_num, rfl, by simpa using HS, trivial⟩
            case measure => simp [intOf]; omega
    · have HE := Lib.hid (HC.out.end_ (by rw [HN.out]; exact Nat.le_refl _))
      by_cases hb1 : behind < a
      · have HF := Lib.hid (show nxV (dues start l) (ends start l) behind = a ∧ nxB (ends start l) behind = true by
          rw [HE.out.1]; exact ⟨nx_none hb1 HE.out.2, by unfold nxB; simpa using hb1⟩)
        go_wp2_with fail
        go_ret2
        exact ⟨ret_nx HF.out.1.symm HF.out.2.symm, rfl⟩
      · have HF := Lib.hid (show nxV (dues start l) (ends start l) behind = 0 ∧ nxB (ends start l) behind = false by
          rw [HE.out.1]; exact ⟨nx_done (by omega), by unfold nxB; simp; omega⟩)
        have hb3 : decide (behind < a) = false := by simpa using hb1
        go_wp2_with fail
        go_ret2
        exact ⟨ret_nx HF.out.1.symm HF.out.2.symm, rfl⟩
end Go.Proofs.YtnkhdpenmekhdaaGreat.Run
end

section
namespace Go.Proofs.YtnkhdpenmekhdaaGreat.Lin
open Go.RowKit Go.Proofs.YtnkhdpenmekhdaaGreat.Own Go.Proofs.YtnkhdpenmekhdaaGreat.Brk Go.Proofs.YtnkhdpenmekhdaaGreat.Calc Go.Proofs.YtnkhdpenmekhdaaGreat.Tree Go.Proofs.YtnkhdpenmekhdaaGreat.Run Go.Proofs.YtnkhdpenmekhdaaGreat.Bkf

/-- the document's line -/
def lnC (x : Ln) (at_ : Int) (pF : Option Addr) (cF : Nat) (pL : Option Addr) (lL cL : Nat) (start done : Int) : Array Value :=
  #[.int .i64 x.b, .int .i64 x.c, .int .i64 x.j, .int .i64 x.st, .int .i64 x.n, .int .i64 at_, .slice pF x.F.length cF, .slice pL lL cL, .int .i64 start, .int .i64 done, .string ⟨x.H.toArray⟩]
/-- what its slices read as; what is known of it -/
structure RfAt (OK : List Op → Option Addr → Nat → Prop) (x : Ln) (v : Value) (at_ : Int) (pF : Option Addr) (cF : Nat) (pL : Option Addr) (lL cL : Nat) (start done : Int) : Prop where
  val : v = .agg (lnC x at_ pF cF pL lL cL start done)
  first : OK x.F pF cF
  wait : x.st = 1 → at_ = x.un
  run : goes x → ∃ ops, OK ops pL cL ∧ ops.length = lL ∧ lL ≤ 1000 ∧ chk start ops = 0 ∧ x.D = dues start ops ∧ x.E = ends start ops ∧ x.was = done
  good : Good x
  idle : ¬ goes x → x.H = []
def Rf (OK : List Op → Option Addr → Nat → Prop) (x : Ln) (v : Value) : Prop := ∃ at_ pF cF pL lL cL start done, RfAt OK x v at_ pF cF pL lL cL start done
theorem Rf.good {OK : List Op → Option Addr → Nat → Prop} {x : Ln} {v : Value} (h : Rf OK x v) : Good x := by obtain ⟨_, _, _, _, _, _, _, _, h⟩ := h; exact h.good
section
variable {w : World} {b : Nat} {x0 x1 x2 x3 x4 x5 x6 x7 x8 x9 x10 : Value} {T : TypeId}
theorem row11 (h : w.heap[b]? = some (.cells #[x0, x1, x2, x3, x4, x5, x6, x7, x8, x9, x10] T (0, 0))) :
    w.cell? ⟨b, 0, none⟩ = some x0 ∧ w.cell? ⟨b, 1, none⟩ = some x1 ∧ w.cell? ⟨b, 2, none⟩ = some x2 ∧ w.cell? ⟨b, 3, none⟩ = some x3 ∧ w.cell? ⟨b, 4, none⟩ = some x4 ∧ w.cell? ⟨b, 5, none⟩ = some x5 ∧ w.cell? ⟨b, 6, none⟩ = some x6 ∧ w.cell? ⟨b, 7, none⟩ = some x7 ∧ w.cell? ⟨b, 8, none⟩ = some x8 ∧ w.cell? ⟨b, 9, none⟩ = some x9 ∧ w.cell? ⟨b, 10, none⟩ = some x10 :=
  ⟨at_cell h 0, at_cell h 1, at_cell h 2, at_cell h 3, at_cell h 4, at_cell h 5, at_cell h 6, at_cell h 7, at_cell h 8, at_cell h 9, at_cell h 10⟩
theorem frz11 (h : w.heap[b]? = some (.cells #[x0, x1, x2, x3, x4, x5, x6, x7, x8, x9, x10] T (0, 0))) :
    w.frozen? ⟨b, 0, none⟩ = false ∧ w.frozen? ⟨b, 1, none⟩ = false ∧ w.frozen? ⟨b, 2, none⟩ = false ∧ w.frozen? ⟨b, 3, none⟩ = false ∧ w.frozen? ⟨b, 4, none⟩ = false ∧ w.frozen? ⟨b, 5, none⟩ = false ∧ w.frozen? ⟨b, 6, none⟩ = false ∧ w.frozen? ⟨b, 7, none⟩ = false ∧ w.frozen? ⟨b, 8, none⟩ = false ∧ w.frozen? ⟨b, 9, none⟩ = false ∧ w.frozen? ⟨b, 10, none⟩ = false :=
  ⟨at_frozen h 0, at_frozen h 1, at_frozen h 2, at_frozen h 3, at_frozen h 4, at_frozen h 5, at_frozen h 6, at_frozen h 7, at_frozen h 8, at_frozen h 9, at_frozen h 10⟩
end
theorem at_pos {b c j : Int} (h : okR b c j) (n : Nat) {now : Int} (ht : isT now = true) (r : Int) : 0 ≤ atR b c j n now r := by
  have h1 := at_rng h n now r
  have h2 := low_rng h n
  have h3 := (isT_iff.1 ht).1
  have := h.1
  omega
theorem atB_is {b c j : Int} (h : okR b c j) (n : Nat) {now : Int} (ht : isT now = true) (r : Int) : atB b c j n now r = isT (atR b c j n now r) := by
  have h0 := at_pos h n ht r
  unfold atB
  cases hT : isT (atR b c j n now r) with
  | true => exact decide_eq_true (isT_iff.1 hT).2
  | false => exact decide_eq_false fun hle => by rw [isT_iff.2 ⟨h0, hle⟩] at hT; cases hT
set_option maxHeartbeats 1000000 in
theorem late_calls (now : Int) (w : World) : Calls Tryz.prog 50 #[.int .i64 now] w fun e w' => e = .returned (.bool !bef now) ∧ w = w' := by
  by_cases h1 : now < 0
  · have H : Hid (bef now = false) := Lib.hid (by unfold bef; simp; omega)
    go_enter Tryz.func50, Tryz.ntmps50
    go_wp2
    go_ret
    exact ⟨by rw [H.out]; rfl, rfl⟩
  · by_cases h2 : 549755813888 < now
    · have H : Hid (bef now = false) := Lib.hid (by unfold bef; simp; omega)
      go_enter Tryz.func50, Tryz.ntmps50
      go_wp2
      go_ret
      exact ⟨by rw [H.out]; rfl, rfl⟩
    · have H : Hid (bef now = true) := Lib.hid (bef_iff.2 (by omega))
      go_enter Tryz.func50, Tryz.ntmps50
      go_wp2
      go_ret
      exact ⟨by rw [H.out]; rfl, rfl⟩
/-- what a call of the document's answers: a line, what is done -/
def RGives (OK : List Op → Option Addr → Nat → Prop) (w : World) (y : Ln) (O : List Ou) (e : Ending) (w' : World) : Prop :=
  ∃ v u, e = .returned (.tuple #[v, u]) ∧ Rf OK y v ∧ MineO w' w.heap.size u O ∧ Below w.heap.size w w'
theorem calm_no (x : Ln) {s : Int} (h3 : s ≠ 3) (h5 : s ≠ 5) : ¬ goes (calm x s) := by rintro (e | e) <;> simp [calm] at e <;> omega
theorem one_res (w : World) (z : Ou) (B g : Nat) (hB : B ≤ w.heap.size) (hg : g = w.heap.size) : MineO (w.alloc (.cells #[.int .i64 z.1, .string ⟨z.2.toArray⟩] 62 (0, 0))) B (.slice (some ⟨g, 0, none⟩) 1 1) [z] := mineO_base (mineO_one w z g hg) hB
/-- a line at rest, as a value -/
theorem rf_calm {OK : List Op → Option Addr → Nat → Prop} {x : Ln} {s : Int} {at_ : Int} {pF : Option Addr} {cF : Nat} {pL : Option Addr} {lL cL : Nat} {start done : Int} (hf : OK x.F pF cF) (hg : Good (calm x s)) (h1 : s ≠ 1) (h3 : s ≠ 3) (h5 : s ≠ 5) :
    Rf OK (calm x s) (.agg #[.int .i64 x.b, .int .i64 x.c, .int .i64 x.j, .int .i64 s, .int .i64 x.n, .int .i64 at_, .slice pF x.F.length cF, .slice pL lL cL, .int .i64 start, .int .i64 done, .string ⟨#[]⟩]) :=
  ⟨at_, pF, cF, pL, lL, cL, start, done, rfl, hf, fun e => absurd e h1, fun hgo => absurd hgo (calm_no x h3 h5), hg, fun _ => rfl⟩
section
variable {OK : List Op → Option Addr → Nat → Prop} {x : Ln} {v : Value}
set_option maxRecDepth 100000 in
set_option maxHeartbeats 4000000 in
theorem rstart_calls (w : World) (h : Rf OK x v) : Calls Tryz.prog 26 #[v] w (RGives OK w (startL x) (startO x)) := by
  have HR := Lib.hid h
  obtain ⟨at_, pF, cF, pL, lL, cL, start, done, h⟩ := h
  obtain ⟨rfl, hf, hw, hr, hg, hi⟩ := h
  have HF := Lib.hid hf
  have HG := Lib.hid hg
  have hidle : x.st = 0 → x.H = [] := fun e => hi (by rintro (e' | e') <;> omega)
  clear hf hw hr hg hi
  unfold lnC at *
  by_cases hs : x.st = 0
  · have HL : Hid (startL x = calm (zero x) 2) := Lib.hid (if_pos hs)
    have HO : Hid (startO x = [(1, [])]) := Lib.hid (if_pos hs)
    have HH := Lib.hid (hidle hs)
    have t0 : (x.st == 0) = true := by simpa using hs
    clear hidle
    go_enter Tryz.func26, Tryz.ntmps26
    go_wp2_with fail
    refine bodyPost_ret (v := .tuple #[.agg #[.int .i64 x.b, .int .i64 x.c, .int .i64 x.j, .int .i64 2, .int .i64 0, .int .i64 at_, .slice pF x.F.length cF, .slice pL lL cL, .int .i64 start, .int .i64 done, .string ⟨x.H.toArray⟩], .slice (some ⟨w.heap.size + 1 + 1, 0, none⟩) 1 1]) ?_ rfl ⟨_, _, rfl, ?_, ?_, ?_⟩
    · simp [results, Tryz.results26, go_sem]
    · rw [HL.out, HH.out]
      exact rf_calm (x := zero x) HF.out (good_calm (good_zero HG.out) 2 (by omega) (by omega) (by omega)) (by omega) (by omega) (by omega)
    · rw [HO.out]
      exact one_res _ (1, []) _ _ (by simp; omega) (by simp)
    · exact (((Below.refl _ _).alloc (Nat.le_refl _) _).alloc (by simp) _).alloc (by simp; omega) _
  · have HL : Hid (startL x = x) := Lib.hid (if_neg hs)
    have HO : Hid (startO x = []) := Lib.hid (if_neg hs)
    have t0 : (x.st == 0) = false := by simpa using hs
    clear hidle
    go_enter Tryz.func26, Tryz.ntmps26
    go_wp2_with fail
    refine bodyPost_ret (v := .tuple #[.agg #[.int .i64 x.b, .int .i64 x.c, .int .i64 x.j, .int .i64 x.st, .int .i64 x.n, .int .i64 at_, .slice pF x.F.length cF, .slice pL lL cL, .int .i64 start, .int .i64 done, .string ⟨x.H.toArray⟩], .slice none 0 0]) ?_ rfl ⟨_, _, rfl, ?_, ?_, ?_⟩
    · simp [results, Tryz.results26, go_sem]
    · rw [HL.out]
      exact HR.out
    · rw [HO.out]
      exact mineO_nil _ _
    · exact ((Below.refl _ _).alloc (Nat.le_refl _) _).alloc (by simp) _
end
end Go.Proofs.YtnkhdpenmekhdaaGreat.Lin
end

section
namespace Go.Proofs.YtnkhdpenmekhdaaGreat.Lin
open Go.RowKit Go.Proofs.YtnkhdpenmekhdaaGreat.Own Go.Proofs.YtnkhdpenmekhdaaGreat.Brk Go.Proofs.YtnkhdpenmekhdaaGreat.Calc Go.Proofs.YtnkhdpenmekhdaaGreat.Tree Go.Proofs.YtnkhdpenmekhdaaGreat.Run Go.Proofs.YtnkhdpenmekhdaaGreat.Bkf

set_option maxRecDepth 100000 in
set_option maxHeartbeats 4000000 in
/-- two slices that hold the same -/
theorem same_outs (xs : List Ou) (n : Nat) (hn : xs.length = n) (p q : Option Addr) (c d : Nat) (w : World) (h1 : Outs w xs p c) (h2 : Outs w xs q d) :
    Calls Tryz.prog 20 #[.slice p n c, .slice q n d] w fun e w' => e = .returned (.bool true) ∧ Below w.heap.size w w' := by
  subst hn
  have hc1 := h1.cap
  have hm1 := h1.max
  unfold maxLen at hm1
  have q2 : (xs.length : Int) ≤ 9223372036854775807 := by omega
  have H1 := Lib.hid h1
  have H2 := Lib.hid h2
  clear h1 h2
  go_enter Tryz.func20, Tryz.ntmps20
  go_wp2_with fail
  go_loopw [5] (fun i wr => ∃ k m : Nat, k ≤ xs.length ∧ i = .int .i64 k ∧ wr = w.drewN m) (fun i _ => xs.length - (Go.RowKit.intOf i).toNat)
  case atStart => exact ⟨0, 0, by omega, rfl, rfl⟩
  case round =>
    obtain ⟨k, m, hk, rfl, rfl⟩ := hrel
    rcases Nat.lt_or_eq_of_le hk with hlt | rfl
    · rcases H1.out.cells with h0 | ⟨b, o, rfl, hb, hc⟩
      · rw [h0] at hlt; simp at hlt
      · rcases H2.out.cells with h0 | ⟨b', o', rfl, hb', hc'⟩
        · rw [h0] at hlt; simp at hlt
        · obtain ⟨c0, c1⟩ := hc k hlt
          obtain ⟨d0, d1⟩ := hc' k hlt
          have q1 : (k : Int) < (xs.length : Int) := by omega
          generalize xs[k] = x at *
          clear hc hc'
          go_wp2_with fail
          go_quiet (fail)
          go_wp2_with fail
          go_roundw
          case rel => exact ⟨k + 1, _, by omega, by go_num, rfl⟩
          case measure => simp [Go.RowKit.intOf]; omega
    · go_wp2_with fail
      go_ret
      exact ⟨rfl, Run.below_drew (Below.refl _ _)⟩
end Go.Proofs.YtnkhdpenmekhdaaGreat.Lin
end

section
namespace Go.Proofs.YtnkhdpenmekhdaaGreat.Lin
open Go.RowKit Go.Proofs.YtnkhdpenmekhdaaGreat.Own Go.Proofs.YtnkhdpenmekhdaaGreat.Brk Go.Proofs.YtnkhdpenmekhdaaGreat.Calc Go.Proofs.YtnkhdpenmekhdaaGreat.Tree Go.Proofs.YtnkhdpenmekhdaaGreat.Run Go.Proofs.YtnkhdpenmekhdaaGreat.Bkf

theorem next_go' {x : Ln} (h : goes x) : nextV x = nxV x.D x.E x.was ∧ nextI x = true := by
  unfold nextV nextI
  have : x.st ≠ 1 := by rcases h with h | h <;> omega
  rw [if_neg this, if_pos h]
  simp [h]
theorem next_wait' {x : Ln} (h : x.st = 1) : nextV x = x.un ∧ nextI x = true := by
  unfold nextV nextI
  rw [if_pos h]
  simp [h]
theorem next_no' {x : Ln} (h : x.st ≠ 1) (hg : ¬ goes x) : nextV x = 0 ∧ nextI x = false := by
  unfold nextV nextI
  rw [if_neg h, if_neg hg]
  simp [h, hg]
section
variable {OK : List Op → Option Addr → Nat → Prop} {x : Ln} {v : Value}
set_option maxRecDepth 100000 in
set_option maxHeartbeats 4000000 in
theorem rstop_calls (w : World) (h : Rf OK x v) : Calls Tryz.prog 27 #[v] w (RGives OK w (stopL x) (stopO x)) := by
  have HR := Lib.hid h
  obtain ⟨at_, pF, cF, pL, lL, cL, start, done, h⟩ := h
  obtain ⟨rfl, hf, hw, hr, hg, hi⟩ := h
  have HF := Lib.hid hf
  have HG := Lib.hid hg
  clear hf hw hr hg hi
  unfold lnC at *
  by_cases hs : x.st = 0
  · have HL : Hid (stopL x = x) := Lib.hid (if_pos hs)
    have HO : Hid (stopO x = []) := Lib.hid (if_pos (.inl hs))
    have t0 : (x.st == 0) = true := by simpa using hs
    clear hs
    go_enter Tryz.func27, Tryz.ntmps27
    go_wp2_with fail
    refine bodyPost_ret (v := .tuple #[.agg #[.int .i64 x.b, .int .i64 x.c, .int .i64 x.j, .int .i64 x.st, .int .i64 x.n, .int .i64 at_, .slice pF x.F.length cF, .slice pL lL cL, .int .i64 start, .int .i64 done, .string ⟨x.H.toArray⟩], .slice none 0 0]) ?_ rfl ⟨_, _, rfl, ?_, ?_, ?_⟩
    · simp [results, Tryz.results27, go_sem]
    · rw [HL.out]
      exact HR.out
    · rw [HO.out]
      exact mineO_nil _ _
    · exact ((Below.refl _ _).alloc (Nat.le_refl _) _).alloc (by simp) _
  · have HL : Hid (stopL x = calm x 0) := Lib.hid (if_neg hs)
    have t0 : (x.st == 0) = false := by simpa using hs
    by_cases h1 : x.st = 1
    · have HO : Hid (stopO x = []) := Lib.hid (if_pos (.inr h1))
      have t1 : (x.st == 1) = true := by simpa using h1
      clear hs h1
      go_enter Tryz.func27, Tryz.ntmps27
      go_wp2_with fail
      refine bodyPost_ret (v := .tuple #[.agg #[.int .i64 x.b, .int .i64 x.c, .int .i64 x.j, .int .i64 0, .int .i64 x.n, .int .i64 at_, .slice pF x.F.length cF, .slice none 0 0, .int .i64 start, .int .i64 done, .string ⟨#[]⟩], .slice none 0 0]) ?_ rfl ⟨_, _, rfl, ?_, ?_, ?_⟩
      · simp [results, Tryz.results27, go_sem]
      · rw [HL.out]
        exact rf_calm HF.out (good_calm HG.out 0 (by omega) (by omega) (by omega)) (by omega) (by omega) (by omega)
      · rw [HO.out]
        exact mineO_nil _ _
      · exact ((Below.refl _ _).alloc (Nat.le_refl _) _).alloc (by simp) _
    · have HO : Hid (stopO x = [(2, [])]) := Lib.hid (if_neg (by omega))
      have t1 : (x.st == 1) = false := by simpa using h1
      clear hs h1
      go_enter Tryz.func27, Tryz.ntmps27
      go_wp2_with fail
      refine bodyPost_ret (v := .tuple #[.agg #[.int .i64 x.b, .int .i64 x.c, .int .i64 x.j, .int .i64 0, .int .i64 x.n, .int .i64 at_, .slice pF x.F.length cF, .slice none 0 0, .int .i64 start, .int .i64 done, .string ⟨#[]⟩], .slice (some ⟨w.heap.size + 1 + 1, 0, none⟩) 1 1]) ?_ rfl ⟨_, _, rfl, ?_, ?_, ?_⟩
      · simp [results, Tryz.results27, go_sem]
      · rw [HL.out]
        exact rf_calm HF.out (good_calm HG.out 0 (by omega) (by omega) (by omega)) (by omega) (by omega) (by omega)
      · rw [HO.out]
        exact one_res _ (2, []) _ _ (by simp; omega) (by simp)
      · exact (((Below.refl _ _).alloc (Nat.le_refl _) _).alloc (by simp) _).alloc (by simp; omega) _
set_option maxRecDepth 100000 in
set_option maxHeartbeats 4000000 in
theorem rnext_line (w : World) (hOK : ∀ L p c, OK L p c → Ops w L p c) (h : Rf OK x v) : Calls Tryz.prog 9 #[v] w fun e w' => e = .returned (.tuple #[.int .i64 (nextV x), .bool (nextI x)]) ∧ Below w.heap.size w w' := by
  obtain ⟨at_, pF, cF, pL, lL, cL, start, done, h⟩ := h
  obtain ⟨rfl, hf, hw, hr, hg, hi⟩ := h
  unfold lnC
  by_cases h1 : x.st = 1
  · have HV := Lib.hid (next_wait' h1)
    have t1 : (x.st == 1) = true := by simpa using h1
    rw [hw h1]
    clear hf hw hr hg hi h1 hOK
    go_enter Tryz.func9, Tryz.ntmps9
    go_wp2_with fail
    go_ret2
    exact ⟨by rw [HV.out.1, HV.out.2]; rfl, (Below.refl _ _).alloc (Nat.le_refl _) _⟩
  · have t1 : (x.st == 1) = false := by simpa using h1
    by_cases hgo : goes x
    · have HV := Lib.hid (next_go' hgo)
      obtain ⟨ops, ho, hl, hl2, hc, e1, e2, e3⟩ := hr hgo
      rw [e1, e2, e3] at HV
      have hE : nxB (ends start ops) done = true := by
        have := (hg.run hgo).1
        rw [e2, e3] at this
        exact decide_eq_true this
      have HO := Lib.hid (hOK _ _ _ ho)
      have HC := Lib.hid (chk_inv hc)
      have HL := Lib.hid hl
      have HE := Lib.hid hE
      have hg2 : x.st = 3 ∨ x.st = 5 := hgo
      clear hf hw hr hg hi hOK ho hl hc e1 e2 e3 hgo hE
      have hb : Below w.heap.size w (w.alloc (.cells #[.int .i64 x.b, .int .i64 x.c, .int .i64 x.j, .int .i64 x.st, .int .i64 x.n, .int .i64 at_, .slice pF x.F.length cF, .slice pL lL cL, .int .i64 start, .int .i64 done, .string ⟨x.H.toArray⟩] 32)) := (Below.refl _ _).alloc (Nat.le_refl _) _
      have HB := Lib.hid hb
      clear hb
      have h35 : ((x.st == 3) = true) ∨ ((x.st == 3) = false ∧ (x.st == 5) = true) := by rcases hg2 with e | e <;> simp [e]
      clear hg2
      rcases h35 with t3 | ⟨t3, t5⟩ <;>
      · go_enter Tryz.func9, Tryz.ntmps9
        go_wp2_with fail
        refine (rnext_calls ops lL HL.out start done HC.out.1 HC.out.2 pL cL _ (HO.out.below HB.out)).mono ?_
        rintro e w' ⟨rfl, rfl⟩
        go_wp2_with fail
        go_ret2
        exact ⟨by rw [HV.out.1, HV.out.2, HE.out]; rfl, HB.out⟩
    · have HV := Lib.hid (next_no' h1 hgo)
      have hg2 : ¬ (x.st = 3 ∨ x.st = 5) := hgo
      have hg3 : x.st = 0 ∨ x.st = 2 ∨ x.st = 4 := by have := hg.st; omega
      clear hf hw hr hg hi hOK hgo hg2 h1 t1
      rcases hg3 with h3 | h3 | h3 <;>
      · go_enter Tryz.func9, Tryz.ntmps9
        go_wp2_with fail
        go_ret2
        exact ⟨by rw [HV.out.1, HV.out.2]; rfl, (Below.refl _ _).alloc (Nat.le_refl _) _⟩
theorem rf_fail {pF : Option Addr} {cF : Nat} {start done : Int} {now r a : Int} (hf : OK x.F pF cF) (hg : Good x) (hT : isT (atL x now r) = true) (ha : atL x now r = a) :
    Rf OK (failL x now r) (.agg #[.int .i64 x.b, .int .i64 x.c, .int .i64 x.j, .int .i64 1, .int .i64 ((x.n : Int) + 1), .int .i64 a, .slice pF x.F.length cF, .slice none 0 0, .int .i64 start, .int .i64 done, .string ⟨#[]⟩]) := by
  have hgf := good_fail hg now r
  rw [failL_yes hT] at hgf ⊢
  subst ha
  exact ⟨_, pF, cF, none, 0, 0, start, done, rfl, hf, fun _ => rfl, fun hgo => by rcases hgo with e | e <;> simp at e, hgf, fun _ => rfl⟩
theorem rf_fail2 {pF : Option Addr} {cF : Nat} {start done : Int} {now r : Int} (hf : OK x.F pF cF) (hg : Good x) (hT : ¬ isT (atL x now r) = true) :
    Rf OK (failL x now r) (.agg #[.int .i64 x.b, .int .i64 x.c, .int .i64 x.j, .int .i64 1, .int .i64 x.n, .int .i64 1099511627776, .slice pF x.F.length cF, .slice none 0 0, .int .i64 start, .int .i64 done, .string ⟨#[]⟩]) := by
  have hgf := good_fail hg now r
  rw [failL_no hT] at hgf ⊢
  exact ⟨_, pF, cF, none, 0, 0, start, done, rfl, hf, fun _ => rfl, fun hgo => by rcases hgo with e | e <;> simp at e, hgf, fun _ => rfl⟩
set_option maxRecDepth 100000 in
set_option maxHeartbeats 4000000 in
theorem rfailed_calls (now r : Int) (hn : bef now = true) (hb : x.n < 1000000000000000000) (w : World) (h : Rf OK x v) : Calls Tryz.prog 51 #[v, .int .i64 now, .int .i64 r] w fun e w' => ∃ v', e = .returned v' ∧ Rf OK (failL x now r) v' ∧ Below w.heap.size w w' := by
  obtain ⟨at_, pF, cF, pL, lL, cL, start, done, h⟩ := h
  obtain ⟨rfl, hf, hw, hr, hg, hi⟩ := h
  have HF := Lib.hid hf
  have HG := Lib.hid hg
  have HA := Lib.hid (fun W => rat_calls x.b x.c x.j hg.rule x.n now r (bef_tick hn) W)
  rw [atB_is hg.rule x.n (bef_tick hn) r] at HA
  obtain ⟨a, ha⟩ : ∃ a, atR x.b x.c x.j x.n now r = a := ⟨_, rfl⟩
  have HAL : Hid (atL x now r = a) := Lib.hid ha
  rw [ha] at HA
  clear hf hw hr hg hi hn ha
  unfold lnC
  cases hT : isT a with
  | true =>
    rw [hT] at HA
    have HT : Hid (isT (atL x now r) = true) := Lib.hid (by rw [HAL.out]; exact hT)
    clear hT
    go_enter Tryz.func51, Tryz.ntmps51
    go_wp2_with (go_at_call 66; refine (HA.out _).mono ?_; rintro e w' ⟨rfl, rfl⟩)
    refine bodyPost_ret (v := .agg #[.int .i64 x.b, .int .i64 x.c, .int .i64 x.j, .int .i64 1, .int .i64 ((x.n : Int) + 1), .int .i64 a, .slice pF x.F.length cF, .slice none 0 0, .int .i64 start, .int .i64 done, .string ⟨#[]⟩]) ?_ rfl ⟨_, rfl, ?_, ?_⟩
    · simp [results, Tryz.results51, go_sem]
    · exact rf_fail HF.out HG.out HT.out HAL.out
    · exact ((Below.refl _ _).alloc (Nat.le_refl _) _).alloc (by simp) _
  | false =>
    rw [hT] at HA
    have HT : Hid (¬ isT (atL x now r) = true) := Lib.hid (by rw [HAL.out, hT]; simp)
    clear hT
    go_enter Tryz.func51, Tryz.ntmps51
    go_wp2_with (go_at_call 66; refine (HA.out _).mono ?_; rintro e w' ⟨rfl, rfl⟩)
    refine bodyPost_ret (v := .agg #[.int .i64 x.b, .int .i64 x.c, .int .i64 x.j, .int .i64 1, .int .i64 x.n, .int .i64 1099511627776, .slice pF x.F.length cF, .slice none 0 0, .int .i64 start, .int .i64 done, .string ⟨#[]⟩]) ?_ rfl ⟨_, rfl, ?_, ?_⟩
    · simp [results, Tryz.results51, go_sem]
    · exact rf_fail2 HF.out HG.out HT.out
    · exact ((Below.refl _ _).alloc (Nat.le_refl _) _).alloc (by simp) _
end
end Go.Proofs.YtnkhdpenmekhdaaGreat.Lin
end

section
namespace Go.Proofs.YtnkhdpenmekhdaaGreat.Lin
open Go.RowKit Go.Proofs.YtnkhdpenmekhdaaGreat.Own Go.Proofs.YtnkhdpenmekhdaaGreat.Brk Go.Proofs.YtnkhdpenmekhdaaGreat.Calc Go.Proofs.YtnkhdpenmekhdaaGreat.Tree Go.Proofs.YtnkhdpenmekhdaaGreat.Run Go.Proofs.YtnkhdpenmekhdaaGreat.Bkf

theorem take_next' {T : List Op} {q : Nat} (h : q < T.length) : (T.take (q + 1)).map oF = (T.take q).map oF ++ [oF T[q]] := by
  rw [List.take_succ_eq_append_getElem h, List.map_append]; rfl
theorem two_new' (w : World) (x y : Value) (T : TypeId) (g : Nat) (hg : g = w.heap.size) : ∀ ad, some (⟨g, 0, none⟩ : Addr) = some ad → ∀ j u, [x, y][j]? = some u → (w.alloc (.cells #[x, y] T (0, 0))).cell? (ad.add j) = some u := by
  subst hg
  rintro ad ⟨⟩ j u hu
  rw [add0, at_cell (at_new w _)]
  simpa using hu
theorem is_of_go : ∀ (l : List Op) (a : Int), go a l = 0 → ∀ x ∈ l, Is x := by
  intro l
  induction l with
  | nil => intro a _ x hx; cases hx
  | cons y r ih =>
    intro a h x hx
    obtain ⟨h1, h2⟩ := go_inv h
    rcases List.mem_cons.1 hx with rfl | hx
    · exact (ov_inv h1).1
    · exact ih _ h2 x hx
theorem told_kind {ops : List Op} {start a b : Int} (h : chk start ops = 0) : ∀ y ∈ told (dues start ops) a b, y.k = 1 ∨ y.k = 3 := by
  obtain ⟨_, hg⟩ := chk_inv h
  intro y hy
  unfold told at hy
  obtain ⟨p, hp, rfl⟩ := List.mem_map.1 hy
  have hp2 := (List.mem_filter.1 hp).1
  have h2 : p.2 ∈ (dues start ops).map (·.2) := List.mem_map.2 ⟨p, hp2, rfl⟩
  rw [dues_steps, List.mem_filter] at h2
  have h3 := is_of_go ops start hg p.2 h2.1
  have h4 : p.2.k ≠ 2 := by simpa using h2.2
  rcases h3 with h | h | h <;> omega
theorem own2_base {w : World} {B B' n : Nat} {e : TypeId} {v : Value} {xs : List Value} (h : w.ownsRow B' e 2 v n xs) (hb : B ≤ B') : w.ownsRow B e 2 v n xs := ⟨h.1, h.2.imp id fun ⟨g, cap, cur, hv, hg, r⟩ => ⟨g, cap, cur, hv, by omega, r⟩⟩
theorem set11 {w : World} {b : Nat} {x0 x1 x2 x3 x4 x5 x6 x7 x8 x9 x10 : Value} {T : TypeId} (h : w.heap[b]? = some (.cells #[x0, x1, x2, x3, x4, x5, x6, x7, x8, x9, x10] T (0, 0))) (y0 y1 y2 y3 y4 y5 y6 y7 y8 y9 y10 : Value) : (((((((((((w.setCell ⟨b, 0, none⟩ y0).setCell ⟨b, 1, none⟩ y1).setCell ⟨b, 2, none⟩ y2).setCell ⟨b, 3, none⟩ y3).setCell ⟨b, 4, none⟩ y4).setCell ⟨b, 5, none⟩ y5).setCell ⟨b, 6, none⟩ y6).setCell ⟨b, 7, none⟩ y7).setCell ⟨b, 8, none⟩ y8).setCell ⟨b, 9, none⟩ y9).setCell ⟨b, 10, none⟩ y10).heap[b]? = some (.cells #[y0, y1, y2, y3, y4, y5, y6, y7, y8, y9, y10] T (0, 0)) := by
  have h0 : (w.setCell ⟨b, 0, none⟩ y0).heap[b]? = some (.cells #[y0, x1, x2, x3, x4, x5, x6, x7, x8, x9, x10] T (0, 0)) := at_set h 0 y0
  have h1 : ((w.setCell ⟨b, 0, none⟩ y0).setCell ⟨b, 1, none⟩ y1).heap[b]? = some (.cells #[y0, y1, x2, x3, x4, x5, x6, x7, x8, x9, x10] T (0, 0)) := at_set h0 1 y1
  have h2 : (((w.setCell ⟨b, 0, none⟩ y0).setCell ⟨b, 1, none⟩ y1).setCell ⟨b, 2, none⟩ y2).heap[b]? = some (.cells #[y0, y1, y2, x3, x4, x5, x6, x7, x8, x9, x10] T (0, 0)) := at_set h1 2 y2
  have h3 : ((((w.setCell ⟨b, 0, none⟩ y0).setCell ⟨b, 1, none⟩ y1).setCell ⟨b, 2, none⟩ y2).setCell ⟨b, 3, none⟩ y3).heap[b]? = some (.cells #[y0, y1, y2, y3, x4, x5, x6, x7, x8, x9, x10] T (0, 0)) := at_set h2 3 y3
  have h4 : (((((w.setCell ⟨b, 0, none⟩ y0).setCell ⟨b, 1, none⟩ y1).setCell ⟨b, 2, none⟩ y2).setCell ⟨b, 3, none⟩ y3).setCell ⟨b, 4, none⟩ y4).heap[b]? = some (.cells #[y0, y1, y2, y3, y4, x5, x6, x7, x8, x9, x10] T (0, 0)) := at_set h3 4 y4
  have h5 : ((((((w.setCell ⟨b, 0, none⟩ y0).setCell ⟨b, 1, none⟩ y1).setCell ⟨b, 2, none⟩ y2).setCell ⟨b, 3, none⟩ y3).setCell ⟨b, 4, none⟩ y4).setCell ⟨b, 5, none⟩ y5).heap[b]? = some (.cells #[y0, y1, y2, y3, y4, y5, x6, x7, x8, x9, x10] T (0, 0)) := at_set h4 5 y5
  have h6 : (((((((w.setCell ⟨b, 0, none⟩ y0).setCell ⟨b, 1, none⟩ y1).setCell ⟨b, 2, none⟩ y2).setCell ⟨b, 3, none⟩ y3).setCell ⟨b, 4, none⟩ y4).setCell ⟨b, 5, none⟩ y5).setCell ⟨b, 6, none⟩ y6).heap[b]? = some (.cells #[y0, y1, y2, y3, y4, y5, y6, x7, x8, x9, x10] T (0, 0)) := at_set h5 6 y6
  have h7 : ((((((((w.setCell ⟨b, 0, none⟩ y0).setCell ⟨b, 1, none⟩ y1).setCell ⟨b, 2, none⟩ y2).setCell ⟨b, 3, none⟩ y3).setCell ⟨b, 4, none⟩ y4).setCell ⟨b, 5, none⟩ y5).setCell ⟨b, 6, none⟩ y6).setCell ⟨b, 7, none⟩ y7).heap[b]? = some (.cells #[y0, y1, y2, y3, y4, y5, y6, y7, x8, x9, x10] T (0, 0)) := at_set h6 7 y7
  have h8 : (((((((((w.setCell ⟨b, 0, none⟩ y0).setCell ⟨b, 1, none⟩ y1).setCell ⟨b, 2, none⟩ y2).setCell ⟨b, 3, none⟩ y3).setCell ⟨b, 4, none⟩ y4).setCell ⟨b, 5, none⟩ y5).setCell ⟨b, 6, none⟩ y6).setCell ⟨b, 7, none⟩ y7).setCell ⟨b, 8, none⟩ y8).heap[b]? = some (.cells #[y0, y1, y2, y3, y4, y5, y6, y7, y8, x9, x10] T (0, 0)) := at_set h7 8 y8
  have h9 : ((((((((((w.setCell ⟨b, 0, none⟩ y0).setCell ⟨b, 1, none⟩ y1).setCell ⟨b, 2, none⟩ y2).setCell ⟨b, 3, none⟩ y3).setCell ⟨b, 4, none⟩ y4).setCell ⟨b, 5, none⟩ y5).setCell ⟨b, 6, none⟩ y6).setCell ⟨b, 7, none⟩ y7).setCell ⟨b, 8, none⟩ y8).setCell ⟨b, 9, none⟩ y9).heap[b]? = some (.cells #[y0, y1, y2, y3, y4, y5, y6, y7, y8, y9, x10] T (0, 0)) := at_set h8 9 y9
  have h10 : (((((((((((w.setCell ⟨b, 0, none⟩ y0).setCell ⟨b, 1, none⟩ y1).setCell ⟨b, 2, none⟩ y2).setCell ⟨b, 3, none⟩ y3).setCell ⟨b, 4, none⟩ y4).setCell ⟨b, 5, none⟩ y5).setCell ⟨b, 6, none⟩ y6).setCell ⟨b, 7, none⟩ y7).setCell ⟨b, 8, none⟩ y8).setCell ⟨b, 9, none⟩ y9).setCell ⟨b, 10, none⟩ y10).heap[b]? = some (.cells #[y0, y1, y2, y3, y4, y5, y6, y7, y8, y9, y10] T (0, 0)) := at_set h9 10 y10
  exact h10
theorem out11 (w : World) (b : Nat) (y0 y1 y2 y3 y4 y5 y6 y7 y8 y9 y10 : Value) : Out (fun i => i = b) w (((((((((((w.setCell ⟨b, 0, none⟩ y0).setCell ⟨b, 1, none⟩ y1).setCell ⟨b, 2, none⟩ y2).setCell ⟨b, 3, none⟩ y3).setCell ⟨b, 4, none⟩ y4).setCell ⟨b, 5, none⟩ y5).setCell ⟨b, 6, none⟩ y6).setCell ⟨b, 7, none⟩ y7).setCell ⟨b, 8, none⟩ y8).setCell ⟨b, 9, none⟩ y9).setCell ⟨b, 10, none⟩ y10) := (((((((((((Out.refl (fun i => i = b) w).setCell (p := ⟨b, 0, none⟩) (fun _ => rfl) _).setCell (p := ⟨b, 1, none⟩) (fun _ => rfl) _).setCell (p := ⟨b, 2, none⟩) (fun _ => rfl) _).setCell (p := ⟨b, 3, none⟩) (fun _ => rfl) _).setCell (p := ⟨b, 4, none⟩) (fun _ => rfl) _).setCell (p := ⟨b, 5, none⟩) (fun _ => rfl) _).setCell (p := ⟨b, 6, none⟩) (fun _ => rfl) _).setCell (p := ⟨b, 7, none⟩) (fun _ => rfl) _).setCell (p := ⟨b, 8, none⟩) (fun _ => rfl) _).setCell (p := ⟨b, 9, none⟩) (fun _ => rfl) _).setCell (p := ⟨b, 10, none⟩) (fun _ => rfl) _
theorem rf_on {OK : List Op → Option Addr → Nat → Prop} {x : Ln} {at_ : Int} {pF : Option Addr} {cF : Nat} {pL : Option Addr} {lL cL : Nat} {start now : Int} {ops : List Op} (hf : OK x.F pF cF) (hg : Good x) (hgo : goes x) (ho : OK ops pL cL) (hl : ops.length = lL) (hl2 : lL ≤ 1000) (hc : chk start ops = 0) (e1 : x.D = dues start ops) (e2 : x.E = ends start ops) (hE : now < x.E) :
    Rf OK (goL x now) (.agg #[.int .i64 x.b, .int .i64 x.c, .int .i64 x.j, .int .i64 x.st, .int .i64 x.n, .int .i64 at_, .slice pF x.F.length cF, .slice pL lL cL, .int .i64 start, .int .i64 now, .string ⟨x.H.toArray⟩]) := by
  have hgg := good_go hg hgo now
  rw [goL_on hE] at hgg ⊢
  exact ⟨at_, pF, cF, pL, lL, cL, start, now, rfl, hf, fun e => by rcases hgo with h | h <;> (have e : x.st = 1 := e; omega), fun _ => ⟨ops, ho, hl, hl2, hc, e1, e2, rfl⟩, hgg, fun h => absurd hgo h⟩
section
variable {OK : List Op → Option Addr → Nat → Prop} {x : Ln} {v : Value}
set_option maxRecDepth 100000 in
set_option maxHeartbeats 16000000 in
theorem rgoOn_calls (now : Int) (hgo : goes x) (w : World) (hOK : ∀ L p c, OK L p c → Ops w L p c) (h : Rf OK x v) : Calls Tryz.prog 52 #[v, .int .i64 now] w (RGives OK w (goL x now) (goO x now)) := by
  obtain ⟨i0, hi, hz0, hz1, hz2⟩ := info_parts info_ou
  obtain ⟨at_, pF, cF, pL, lL, cL, start, done, h⟩ := h
  obtain ⟨rfl, hf, hw, hr, hg, hidle⟩ := h
  obtain ⟨ops, ho, hl, hl2, hc, e1, e2, e3⟩ := hr hgo
  have HF := Lib.hid hf
  have HG := Lib.hid hg
  have HGO := Lib.hid hgo
  have HOP := Lib.hid ho
  have HOO := Lib.hid (hOK _ _ _ ho)
  have HL := Lib.hid hl
  have HCK := Lib.hid hc
  have HC := Lib.hid (chk_inv hc)
  have H1 := Lib.hid e1
  have H2 := Lib.hid e2
  have H3 := Lib.hid e3
  have htl : (told (dues start ops) done now).length ≤ 1000 := Nat.le_trans (told_len _ _ _) (Nat.le_trans (dues_len _ _) (by omega))
  have HK := Lib.hid (told_kind (a := done) (b := now) hc)
  obtain ⟨T, hT⟩ : ∃ T, told (dues start ops) done now = T := ⟨_, rfl⟩
  have HT := Lib.hid hT
  have HTX : Hid (dueO x now = T.map oF) := Lib.hid (by unfold dueO; rw [e1, e3, hT])
  rw [hT] at htl HK
  clear hf hw hr hg hidle ho hl hc e1 e2 e3 hT hOK hgo
  unfold lnC
  have hA := ((Below.refl w.heap.size w).alloc (Nat.le_refl _) (.cells #[.int .i64 x.b, .int .i64 x.c, .int .i64 x.j, .int .i64 x.st, .int .i64 x.n, .int .i64 at_, .slice pF x.F.length cF, .slice pL lL cL, .int .i64 start, .int .i64 done, .string ⟨x.H.toArray⟩] 32 (0, 0))).alloc (by simp) (.cells #[.int .i64 0, .int .i64 0, .int .i64 0, .int .i64 0, .int .i64 0, .int .i64 0, .slice none 0 0, .slice none 0 0, .int .i64 0, .int .i64 0, .string ⟨#[]⟩] 32 (0, 0))
  have hN := at_old (w.alloc (.cells #[.int .i64 x.b, .int .i64 x.c, .int .i64 x.j, .int .i64 x.st, .int .i64 x.n, .int .i64 at_, .slice pF x.F.length cF, .slice pL lL cL, .int .i64 start, .int .i64 done, .string ⟨x.H.toArray⟩] 32 (0, 0))) (.cells #[.int .i64 0, .int .i64 0, .int .i64 0, .int .i64 0, .int .i64 0, .int .i64 0, .slice none 0 0, .slice none 0 0, .int .i64 0, .int .i64 0, .string ⟨#[]⟩] 32 (0, 0)) (at_new w (.cells #[.int .i64 x.b, .int .i64 x.c, .int .i64 x.j, .int .i64 x.st, .int .i64 x.n, .int .i64 at_, .slice pF x.F.length cF, .slice pL lL cL, .int .i64 start, .int .i64 done, .string ⟨x.H.toArray⟩] 32 (0, 0)))
  have hM := at_newk (w.alloc (.cells #[.int .i64 x.b, .int .i64 x.c, .int .i64 x.j, .int .i64 x.st, .int .i64 x.n, .int .i64 at_, .slice pF x.F.length cF, .slice pL lL cL, .int .i64 start, .int .i64 done, .string ⟨x.H.toArray⟩] 32 (0, 0))) (.cells #[.int .i64 0, .int .i64 0, .int .i64 0, .int .i64 0, .int .i64 0, .int .i64 0, .slice none 0 0, .slice none 0 0, .int .i64 0, .int .i64 0, .string ⟨#[]⟩] 32 (0, 0)) (k := w.heap.size + 1) (by simp)
  have hS : ((w.alloc (.cells #[.int .i64 x.b, .int .i64 x.c, .int .i64 x.j, .int .i64 x.st, .int .i64 x.n, .int .i64 at_, .slice pF x.F.length cF, .slice pL lL cL, .int .i64 start, .int .i64 done, .string ⟨x.H.toArray⟩] 32 (0, 0))).alloc (.cells #[.int .i64 0, .int .i64 0, .int .i64 0, .int .i64 0, .int .i64 0, .int .i64 0, .slice none 0 0, .slice none 0 0, .int .i64 0, .int .i64 0, .string ⟨#[]⟩] 32 (0, 0))).heap.size = w.heap.size + 1 + 1 := by simp
  have HA := Lib.hid hA
  have HN := Lib.hid hN
  have HM := Lib.hid hM
  have HS := Lib.hid hS
  clear hA hN hM hS
  go_enter Tryz.func52, Tryz.ntmps52
  go_wp2_with fail
  generalize (w.alloc (.cells #[.int .i64 x.b, .int .i64 x.c, .int .i64 x.j, .int .i64 x.st, .int .i64 x.n, .int .i64 at_, .slice pF x.F.length cF, .slice pL lL cL, .int .i64 start, .int .i64 done, .string ⟨x.H.toArray⟩] 32)).alloc (.cells #[.int .i64 0, .int .i64 0, .int .i64 0, .int .i64 0, .int .i64 0, .int .i64 0, .slice none 0 0, .slice none 0 0, .int .i64 0, .int .i64 0, .string ⟨#[]⟩] 32) = W2 at *
  refine (rdue_calls ops lL HL.out hl2 start done now HC.out.1 HC.out.2 pL cL W2 (HOO.out.below HA.out)).mono ?_
  rintro e w3 ⟨vd, rfl, hMD, hB3⟩
  rw [HT.out] at hMD
  obtain ⟨pv, cv, rfl, hops⟩ := hMD.ops
  have HTO := Lib.hid hops
  have hcap := hops.cap
  have hmax := hops.max
  unfold maxLen at hmax
  obtain ⟨m, hm⟩ : ∃ m, T.length = m := ⟨_, rfl⟩
  rw [hm] at htl hcap
  rw [hm]
  have HMM := Lib.hid hm
  have HB3 := Lib.hid (HA.out.trans (hB3.mono HA.out.size))
  have HN3 := Lib.hid ((hB3.block _ (at_lt HN.out)).trans HN.out)
  have HM3 := Lib.hid ((hB3.block _ (at_lt HM.out)).trans HM.out)
  have HS3 : Hid (w.heap.size + 1 + 1 ≤ w3.heap.size) := Lib.hid (by rw [← HS.out]; exact hB3.size)
  clear hMD hB3 hops hm
  go_wp2_with fail
  go_loopw [6, 8] (fun u i wr => ∃ q : Nat, q ≤ m ∧ i = .int .i64 q ∧ MineO wr w3.heap.size u ((T.take q).map oF) ∧ Below w3.heap.size w3 wr) (fun _ i _ => m - (Go.RowKit.intOf i).toNat)
  case atStart => exact ⟨0, Nat.zero_le _, rfl, mineO_nil _ _, Below.refl _ _⟩
  case round =>
    obtain ⟨q, hq, rfl, hown, hB⟩ := hrel
    rcases Nat.lt_or_eq_of_le hq with hlt | rfl
    · have hkl : q < T.length := by rw [HMM.out]; exact hlt
      rcases HTO.out.cells with h0 | ⟨bo, oo, rfl, hbl, hcc⟩
      · rw [h0] at hkl; simp at hkl
      · obtain ⟨d0, d1, d2⟩ := hcc q hkl
        rw [← hB.cell (p := ⟨bo, _, none⟩) hbl] at d0 d1 d2
        have q1 : (q : Int) < (m : Int) := by omega
        have HX := Lib.hid (take_next' hkl)
        have HOW := Lib.hid (mineO_m hown (m := q) (by rw [List.length_map, List.length_take, HMM.out]; omega))
        have HB := Lib.hid hB
        have hs4 := hB.size
        have hkind := HK.out T[q] (List.getElem_mem hkl)
        generalize T[q] = y at *
        obtain ⟨yk, ys, yn⟩ := y
        simp only at d0 d1 d2 hkind
        clear hcc hown hB
        rcases hkind with hk1 | hk3
        · have hkb : (yk == 3) = false := by rw [hk1]; rfl
          have HZ := Lib.hid (oF_one (x := ⟨yk, ys, yn⟩) hk1)
          clear hk1
          go_wp2_with (at_builtin; go_loud (refine Own.append_any rfl (.tmp 35) (.tmp 42) 49 rfl w3.heap.size 62 i0 _ 2 24 Tryz.underlying49 hi hz0 hz1 hz2 rfl (by decide) _ _ _ rfl (World.ownsRow.alloc HOW.out _) _ 1 1 [.int .i64 3, .string ⟨ys.toArray⟩] rfl (fun h => nomatch h) rfl (two_new' _ _ _ _ _ rfl) (by simp [Value.oneCell']) (by unfold maxLen; omega) (by omega) (by simp; omega) ?_; intro v' w6 hown6 hgr; have HOW6 := Lib.hid hown6; have HGR := Lib.hid hgr; clear hown6 hgr))
          have HB7 := Lib.hid ((HB.out.alloc HB.out.size _).grown HGR.out (by simp; omega) fun k' hk' => (own_lt HOW.out hk').1)
          go_roundw
          case rel => exact ⟨q + 1, hlt, by go_num, by rw [HX.out, HZ.out]; exact mineO_more (x := (3, ys)) HOW6.out (by rw [List.length_map, List.length_take, HMM.out]; omega), HB7.out⟩
          case measure => simp [Go.RowKit.intOf]; omega
        · have hkb : (yk == 3) = true := by rw [hk3]; rfl
          have HZ := Lib.hid (oF_no (x := ⟨yk, ys, yn⟩) (show yk ≠ 1 by omega))
          clear hk3
          go_wp2_with (at_builtin; go_loud (refine Own.append_any rfl (.tmp 31) (.tmp 33) 49 rfl w3.heap.size 62 i0 _ 2 24 Tryz.underlying49 hi hz0 hz1 hz2 rfl (by decide) _ _ _ rfl (World.ownsRow.alloc HOW.out _) _ 1 1 [.int .i64 4, .string ⟨#[]⟩] rfl (fun h => nomatch h) rfl (two_new' _ _ _ _ _ rfl) (by simp [Value.oneCell']) (by unfold maxLen; omega) (by omega) (by simp; omega) ?_; intro v' w6 hown6 hgr; have HOW6 := Lib.hid hown6; have HGR := Lib.hid hgr; clear hown6 hgr))
          have HB7 := Lib.hid ((HB.out.alloc HB.out.size _).grown HGR.out (by simp; omega) fun k' hk' => (own_lt HOW.out hk').1)
          go_roundw
          case rel => exact ⟨q + 1, hlt, by go_num, by rw [HX.out, HZ.out]; exact mineO_more (x := (4, [])) HOW6.out (by rw [List.length_map, List.length_take, HMM.out]; omega), HB7.out⟩
          case measure => simp [Go.RowKit.intOf]; omega
    · have he : T.take q = T := List.take_of_length_le (by rw [HMM.out]; exact Nat.le_refl _)
      rw [he] at hown
      obtain ⟨uu, hown, rfl⟩ : ∃ uu, MineO wr w3.heap.size uu (T.map oF) ∧ uu = _ := ⟨_, hown, rfl⟩
      obtain ⟨lu, hlu⟩ : ∃ lu, (T.map oF).length = lu := ⟨_, rfl⟩
      have hown := mineO_m hown hlu
      have HLU := Lib.hid hlu
      have hlu2 : lu ≤ 1000 := by rw [← hlu, List.length_map, HMM.out]; exact htl
      have HOW := Lib.hid hown
      have HB := Lib.hid hB
      have hs3 := HS3.out
      have hs4 := hB.size
      have hbx := (hB.block w.heap.size (by omega)).trans HN3.out
      have hrs := (hB.block (w.heap.size + 1) (by omega)).trans HM3.out
      have HBX := Lib.hid hbx
      have HRS := Lib.hid hrs
      obtain ⟨c0, c1, c2, c3, c4, c5, c6, c7, c8, c9, c10⟩ := row11 hbx
      obtain ⟨f0, f1, f2, f3, f4, f5, f6, f7, f8, f9, f10⟩ := frz11 hbx
      obtain ⟨g0, g1, g2, g3, g4, g5, g6, g7, g8, g9, g10⟩ := frz11 hrs
      clear hown hB hbx hrs he hlu
      have hy1 : w.heap.size < wr.heap.size := by omega
      have hy2 : w.heap.size + 1 < wr.heap.size := by omega
      go_wp2_with fail
      have hbx5 := at_set HBX.out 9 (.int .i64 now)
      have HBX5 := Lib.hid hbx5
      have HRS5 := Lib.hid ((at_set_other wr (b := w.heap.size) (k := w.heap.size + 1) (by omega) 9 (.int .i64 now)).trans HRS.out)
      have HOW5 := Lib.hid (own_set HOW.out (k := w.heap.size) (by omega) 9 (.int .i64 now))
      have HB5 := Lib.hid (((HB3.out.trans (HB.out.mono (by omega))).setCell (p := ⟨w.heap.size, 9, none⟩) (Nat.le_refl _) (.int .i64 now)))
      have hs5 : (wr.setCell ⟨w.heap.size, 9, none⟩ (.int .i64 now)).heap.size = wr.heap.size := by simp [World.setCell]
      clear hbx5 c0 c1 c2 c3 c4 c5 c6 c7 c8 c9 c10 f0 f1 f2 f3 f4 f5 f6 f7 f8 f9 f10 g0 g1 g2 g3 g4 g5 g6 g7 g8 g9 g10 HBX HRS HOW
      generalize wr.setCell ⟨w.heap.size, 9, none⟩ (.int .i64 now) = W5 at *
      refine (rnext_calls ops lL HL.out start now HC.out.1 HC.out.2 pL cL W5 (HOO.out.below HB5.out)).mono ?_
      rintro e w' ⟨rfl, rfl⟩
      rw [← H2.out]
      obtain ⟨c0, c1, c2, c3, c4, c5, c6, c7, c8, c9, c10⟩ := row11 HBX5.out
      obtain ⟨f0, f1, f2, f3, f4, f5, f6, f7, f8, f9, f10⟩ := frz11 HBX5.out
      obtain ⟨g0, g1, g2, g3, g4, g5, g6, g7, g8, g9, g10⟩ := frz11 HRS5.out
      obtain ⟨r0, r1, r2, r3, r4, r5, r6, r7, r8, r9, r10⟩ := row11 HRS5.out
      by_cases hE : now < x.E
      · have HE := Lib.hid hE
        rw [show nxB x.E now = true from decide_eq_true hE]
        clear hE
        go_wp2_with fail
        have hOUT : Out (fun i => i = w.heap.size + 1) W5 (((((((((((W5.setCell ⟨w.heap.size + 1, 0, none⟩ (.int .i64 x.b)).setCell ⟨w.heap.size + 1, 1, none⟩ (.int .i64 x.c)).setCell ⟨w.heap.size + 1, 2, none⟩ (.int .i64 x.j)).setCell ⟨w.heap.size + 1, 3, none⟩ (.int .i64 x.st)).setCell ⟨w.heap.size + 1, 4, none⟩ (.int .i64 x.n)).setCell ⟨w.heap.size + 1, 5, none⟩ (.int .i64 at_)).setCell ⟨w.heap.size + 1, 6, none⟩ (.slice pF x.F.length cF)).setCell ⟨w.heap.size + 1, 7, none⟩ (.slice pL lL cL)).setCell ⟨w.heap.size + 1, 8, none⟩ (.int .i64 start)).setCell ⟨w.heap.size + 1, 9, none⟩ (.int .i64 now)).setCell ⟨w.heap.size + 1, 10, none⟩ (.string ⟨x.H.toArray⟩)) := out11 _ _ _ _ _ _ _ _ _ _ _ _ _
        have hROW : (((((((((((W5.setCell ⟨w.heap.size + 1, 0, none⟩ (.int .i64 x.b)).setCell ⟨w.heap.size + 1, 1, none⟩ (.int .i64 x.c)).setCell ⟨w.heap.size + 1, 2, none⟩ (.int .i64 x.j)).setCell ⟨w.heap.size + 1, 3, none⟩ (.int .i64 x.st)).setCell ⟨w.heap.size + 1, 4, none⟩ (.int .i64 x.n)).setCell ⟨w.heap.size + 1, 5, none⟩ (.int .i64 at_)).setCell ⟨w.heap.size + 1, 6, none⟩ (.slice pF x.F.length cF)).setCell ⟨w.heap.size + 1, 7, none⟩ (.slice pL lL cL)).setCell ⟨w.heap.size + 1, 8, none⟩ (.int .i64 start)).setCell ⟨w.heap.size + 1, 9, none⟩ (.int .i64 now)).setCell ⟨w.heap.size + 1, 10, none⟩ (.string ⟨x.H.toArray⟩)).heap[w.heap.size + 1]? = some (.cells #[.int .i64 x.b, .int .i64 x.c, .int .i64 x.j, .int .i64 x.st, .int .i64 x.n, .int .i64 at_, .slice pF x.F.length cF, .slice pL lL cL, .int .i64 start, .int .i64 now, .string ⟨x.H.toArray⟩] 32 (0, 0)) := set11 HRS5.out _ _ _ _ _ _ _ _ _ _ _
        obtain ⟨k0, k1, k2, k3, k4, k5, k6, k7, k8, k9, k10⟩ := row11 hROW
        generalize (((((((((((W5.setCell ⟨w.heap.size + 1, 0, none⟩ (.int .i64 x.b)).setCell ⟨w.heap.size + 1, 1, none⟩ (.int .i64 x.c)).setCell ⟨w.heap.size + 1, 2, none⟩ (.int .i64 x.j)).setCell ⟨w.heap.size + 1, 3, none⟩ (.int .i64 x.st)).setCell ⟨w.heap.size + 1, 4, none⟩ (.int .i64 x.n)).setCell ⟨w.heap.size + 1, 5, none⟩ (.int .i64 at_)).setCell ⟨w.heap.size + 1, 6, none⟩ (.slice pF x.F.length cF)).setCell ⟨w.heap.size + 1, 7, none⟩ (.slice pL lL cL)).setCell ⟨w.heap.size + 1, 8, none⟩ (.int .i64 start)).setCell ⟨w.heap.size + 1, 9, none⟩ (.int .i64 now)).setCell ⟨w.heap.size + 1, 10, none⟩ (.string ⟨x.H.toArray⟩)) = WF at *
        refine bodyPost_ret (v := .tuple #[.agg #[.int .i64 x.b, .int .i64 x.c, .int .i64 x.j, .int .i64 x.st, .int .i64 x.n, .int .i64 at_, .slice pF x.F.length cF, .slice pL lL cL, .int .i64 start, .int .i64 now, .string ⟨x.H.toArray⟩], uu]) ?_ rfl ⟨_, _, rfl, ?_, ?_, ?_⟩
        · simp [results, Tryz.results52, go_sem, k0, k1, k2, k3, k4, k5, k6, k7, k8, k9, k10]
        · exact rf_on HF.out HG.out HGO.out HOP.out HL.out hl2 HCK.out H1.out H2.out HE.out
        · rw [goO_on HE.out, HTX.out]
          have := own_out (own2_base HOW5.out (show w.heap.size ≤ w3.heap.size by omega)) hOUT fun g hg e => by have := (own_lt HOW5.out hg).1; omega
          rwa [← HLU.out] at this
        · exact HB5.out.trans (hOUT.below HB5.out.size fun i e => by omega)
      · have HE := Lib.hid hE
        rw [show nxB x.E now = false from decide_eq_false hE]
        clear hE
        by_cases hH : x.H = []
        · have HH := Lib.hid hH
          have hHb : x.H.isEmpty = true := by rw [hH]; rfl
          go_wp2_with fail
          have hO3 : Out (fun i => i = w.heap.size) W5 (((W5.setCell ⟨w.heap.size, 3, none⟩ (.int .i64 4)).setCell ⟨w.heap.size, 7, none⟩ (.slice none 0 0)).setCell ⟨w.heap.size, 10, none⟩ (.string ⟨#[]⟩)) := ((((Out.refl (fun i => i = w.heap.size) W5).setCell (p := ⟨w.heap.size, 3, none⟩) (fun _ => rfl) _).setCell (p := ⟨w.heap.size, 7, none⟩) (fun _ => rfl) _).setCell (p := ⟨w.heap.size, 10, none⟩) (fun _ => rfl) _)
          have hRS3 := hO3.at_ HRS5.out (by omega)
          generalize (((W5.setCell ⟨w.heap.size, 3, none⟩ (.int .i64 4)).setCell ⟨w.heap.size, 7, none⟩ (.slice none 0 0)).setCell ⟨w.heap.size, 10, none⟩ (.string ⟨#[]⟩)) = W7 at *
          have hOUT : Out (fun i => i = w.heap.size + 1) W7 (((((((((((W7.setCell ⟨w.heap.size + 1, 0, none⟩ (.int .i64 x.b)).setCell ⟨w.heap.size + 1, 1, none⟩ (.int .i64 x.c)).setCell ⟨w.heap.size + 1, 2, none⟩ (.int .i64 x.j)).setCell ⟨w.heap.size + 1, 3, none⟩ (.int .i64 4)).setCell ⟨w.heap.size + 1, 4, none⟩ (.int .i64 x.n)).setCell ⟨w.heap.size + 1, 5, none⟩ (.int .i64 at_)).setCell ⟨w.heap.size + 1, 6, none⟩ (.slice pF x.F.length cF)).setCell ⟨w.heap.size + 1, 7, none⟩ (.slice none 0 0)).setCell ⟨w.heap.size + 1, 8, none⟩ (.int .i64 start)).setCell ⟨w.heap.size + 1, 9, none⟩ (.int .i64 now)).setCell ⟨w.heap.size + 1, 10, none⟩ (.string ⟨#[]⟩)) := out11 _ _ _ _ _ _ _ _ _ _ _ _ _
          have hROW : (((((((((((W7.setCell ⟨w.heap.size + 1, 0, none⟩ (.int .i64 x.b)).setCell ⟨w.heap.size + 1, 1, none⟩ (.int .i64 x.c)).setCell ⟨w.heap.size + 1, 2, none⟩ (.int .i64 x.j)).setCell ⟨w.heap.size + 1, 3, none⟩ (.int .i64 4)).setCell ⟨w.heap.size + 1, 4, none⟩ (.int .i64 x.n)).setCell ⟨w.heap.size + 1, 5, none⟩ (.int .i64 at_)).setCell ⟨w.heap.size + 1, 6, none⟩ (.slice pF x.F.length cF)).setCell ⟨w.heap.size + 1, 7, none⟩ (.slice none 0 0)).setCell ⟨w.heap.size + 1, 8, none⟩ (.int .i64 start)).setCell ⟨w.heap.size + 1, 9, none⟩ (.int .i64 now)).setCell ⟨w.heap.size + 1, 10, none⟩ (.string ⟨#[]⟩)).heap[w.heap.size + 1]? = some (.cells #[.int .i64 x.b, .int .i64 x.c, .int .i64 x.j, .int .i64 4, .int .i64 x.n, .int .i64 at_, .slice pF x.F.length cF, .slice none 0 0, .int .i64 start, .int .i64 now, .string ⟨#[]⟩] 32 (0, 0)) := set11 hRS3 _ _ _ _ _ _ _ _ _ _ _
          obtain ⟨k0, k1, k2, k3, k4, k5, k6, k7, k8, k9, k10⟩ := row11 hROW
          generalize (((((((((((W7.setCell ⟨w.heap.size + 1, 0, none⟩ (.int .i64 x.b)).setCell ⟨w.heap.size + 1, 1, none⟩ (.int .i64 x.c)).setCell ⟨w.heap.size + 1, 2, none⟩ (.int .i64 x.j)).setCell ⟨w.heap.size + 1, 3, none⟩ (.int .i64 4)).setCell ⟨w.heap.size + 1, 4, none⟩ (.int .i64 x.n)).setCell ⟨w.heap.size + 1, 5, none⟩ (.int .i64 at_)).setCell ⟨w.heap.size + 1, 6, none⟩ (.slice pF x.F.length cF)).setCell ⟨w.heap.size + 1, 7, none⟩ (.slice none 0 0)).setCell ⟨w.heap.size + 1, 8, none⟩ (.int .i64 start)).setCell ⟨w.heap.size + 1, 9, none⟩ (.int .i64 now)).setCell ⟨w.heap.size + 1, 10, none⟩ (.string ⟨#[]⟩)) = WF at *
          refine bodyPost_ret (v := .tuple #[.agg #[.int .i64 x.b, .int .i64 x.c, .int .i64 x.j, .int .i64 4, .int .i64 x.n, .int .i64 at_, .slice pF x.F.length cF, .slice none 0 0, .int .i64 start, .int .i64 now, .string ⟨#[]⟩], uu]) ?_ rfl ⟨_, _, rfl, ?_, ?_, ?_⟩
          · simp [results, Tryz.results52, go_sem, k0, k1, k2, k3, k4, k5, k6, k7, k8, k9, k10]
          · rw [goL_off (show ¬ now < x.E by have := HE.out; omega)]
            exact rf_calm HF.out (good_calm HG.out 4 (by omega) (by omega) (by omega)) (by omega) (by omega) (by omega)
          · rw [goO_off (show ¬ now < x.E by have := HE.out; omega), HTX.out, HH.out, oW_nil, List.append_nil]
            have h1 := own_out (own2_base HOW5.out (show w.heap.size ≤ w3.heap.size by omega)) hO3 fun g hg e => by have := (own_lt HOW5.out hg).1; omega
            have := own_out h1 hOUT fun g hg e => by have := (own_lt HOW5.out hg).1; omega
            rwa [← HLU.out] at this
          · have hO9 : Out (fun i => i = w.heap.size ∨ i = w.heap.size + 1) W5 WF := (hO3.mono fun _ _ e => .inl e).trans (hOUT.mono fun _ _ e => .inr e) fun _ _ h => h
            exact HB5.out.trans (hO9.below HB5.out.size fun i e => by omega)
        · have HH := Lib.hid hH
          have hHb : x.H.isEmpty = false := by simpa using hH
          clear hH
          go_wp2_with (at_builtin; go_loud (refine Own.append_any rfl (.tmp 61) (.tmp 65) 49 rfl w3.heap.size 62 i0 _ 2 24 Tryz.underlying49 hi hz0 hz1 hz2 rfl (by decide) _ _ _ rfl (World.ownsRow.alloc HOW5.out _) _ 1 1 [.int .i64 3, .string ⟨x.H.toArray⟩] rfl (fun h => nomatch h) rfl (two_new' _ _ _ _ _ hs5.symm) (by simp [Value.oneCell']) (by unfold maxLen; omega) (by omega) (by simp; omega) ?_; intro v' w6 hown6 hgr; have e1 := (hgr.block w.heap.size (by simp; omega) (fun e => by have := (own_lt HOW5.out e.symm).1; omega)).trans (at_old _ _ HBX5.out); have e2 := (hgr.block (w.heap.size + 1) (by simp; omega) (fun e => by have := (own_lt HOW5.out e.symm).1; omega)).trans (at_old _ _ HRS5.out); clear c0 c1 c2 c3 c4 c5 c6 c7 c8 c9 c10 f0 f1 f2 f3 f4 f5 f6 f7 f8 f9 f10 g0 g1 g2 g3 g4 g5 g6 g7 g8 g9 g10 r0 r1 r2 r3 r4 r5 r6 r7 r8 r9 r10; obtain ⟨c0, c1, c2, c3, c4, c5, c6, c7, c8, c9, c10⟩ := row11 e1; obtain ⟨f0, f1, f2, f3, f4, f5, f6, f7, f8, f9, f10⟩ := frz11 e1; obtain ⟨g0, g1, g2, g3, g4, g5, g6, g7, g8, g9, g10⟩ := frz11 e2; obtain ⟨r0, r1, r2, r3, r4, r5, r6, r7, r8, r9, r10⟩ := row11 e2; have HRS6 := Lib.hid e2; have HOW6 := Lib.hid hown6; have HGR := Lib.hid hgr; have hs6 := hgr.size; clear hown6 hgr e1 e2))
          have hO3 : Out (fun i => i = w.heap.size) w6 (((w6.setCell ⟨w.heap.size, 3, none⟩ (.int .i64 4)).setCell ⟨w.heap.size, 7, none⟩ (.slice none 0 0)).setCell ⟨w.heap.size, 10, none⟩ (.string ⟨#[]⟩)) := ((((Out.refl (fun i => i = w.heap.size) w6).setCell (p := ⟨w.heap.size, 3, none⟩) (fun _ => rfl) _).setCell (p := ⟨w.heap.size, 7, none⟩) (fun _ => rfl) _).setCell (p := ⟨w.heap.size, 10, none⟩) (fun _ => rfl) _)
          have hRS3 := hO3.at_ HRS6.out (by omega)
          generalize (((w6.setCell ⟨w.heap.size, 3, none⟩ (.int .i64 4)).setCell ⟨w.heap.size, 7, none⟩ (.slice none 0 0)).setCell ⟨w.heap.size, 10, none⟩ (.string ⟨#[]⟩)) = W7 at *
          have hOUT : Out (fun i => i = w.heap.size + 1) W7 (((((((((((W7.setCell ⟨w.heap.size + 1, 0, none⟩ (.int .i64 x.b)).setCell ⟨w.heap.size + 1, 1, none⟩ (.int .i64 x.c)).setCell ⟨w.heap.size + 1, 2, none⟩ (.int .i64 x.j)).setCell ⟨w.heap.size + 1, 3, none⟩ (.int .i64 4)).setCell ⟨w.heap.size + 1, 4, none⟩ (.int .i64 x.n)).setCell ⟨w.heap.size + 1, 5, none⟩ (.int .i64 at_)).setCell ⟨w.heap.size + 1, 6, none⟩ (.slice pF x.F.length cF)).setCell ⟨w.heap.size + 1, 7, none⟩ (.slice none 0 0)).setCell ⟨w.heap.size + 1, 8, none⟩ (.int .i64 start)).setCell ⟨w.heap.size + 1, 9, none⟩ (.int .i64 now)).setCell ⟨w.heap.size + 1, 10, none⟩ (.string ⟨#[]⟩)) := out11 _ _ _ _ _ _ _ _ _ _ _ _ _
          have hROW : (((((((((((W7.setCell ⟨w.heap.size + 1, 0, none⟩ (.int .i64 x.b)).setCell ⟨w.heap.size + 1, 1, none⟩ (.int .i64 x.c)).setCell ⟨w.heap.size + 1, 2, none⟩ (.int .i64 x.j)).setCell ⟨w.heap.size + 1, 3, none⟩ (.int .i64 4)).setCell ⟨w.heap.size + 1, 4, none⟩ (.int .i64 x.n)).setCell ⟨w.heap.size + 1, 5, none⟩ (.int .i64 at_)).setCell ⟨w.heap.size + 1, 6, none⟩ (.slice pF x.F.length cF)).setCell ⟨w.heap.size + 1, 7, none⟩ (.slice none 0 0)).setCell ⟨w.heap.size + 1, 8, none⟩ (.int .i64 start)).setCell ⟨w.heap.size + 1, 9, none⟩ (.int .i64 now)).setCell ⟨w.heap.size + 1, 10, none⟩ (.string ⟨#[]⟩)).heap[w.heap.size + 1]? = some (.cells #[.int .i64 x.b, .int .i64 x.c, .int .i64 x.j, .int .i64 4, .int .i64 x.n, .int .i64 at_, .slice pF x.F.length cF, .slice none 0 0, .int .i64 start, .int .i64 now, .string ⟨#[]⟩] 32 (0, 0)) := set11 hRS3 _ _ _ _ _ _ _ _ _ _ _
          obtain ⟨k0, k1, k2, k3, k4, k5, k6, k7, k8, k9, k10⟩ := row11 hROW
          generalize (((((((((((W7.setCell ⟨w.heap.size + 1, 0, none⟩ (.int .i64 x.b)).setCell ⟨w.heap.size + 1, 1, none⟩ (.int .i64 x.c)).setCell ⟨w.heap.size + 1, 2, none⟩ (.int .i64 x.j)).setCell ⟨w.heap.size + 1, 3, none⟩ (.int .i64 4)).setCell ⟨w.heap.size + 1, 4, none⟩ (.int .i64 x.n)).setCell ⟨w.heap.size + 1, 5, none⟩ (.int .i64 at_)).setCell ⟨w.heap.size + 1, 6, none⟩ (.slice pF x.F.length cF)).setCell ⟨w.heap.size + 1, 7, none⟩ (.slice none 0 0)).setCell ⟨w.heap.size + 1, 8, none⟩ (.int .i64 start)).setCell ⟨w.heap.size + 1, 9, none⟩ (.int .i64 now)).setCell ⟨w.heap.size + 1, 10, none⟩ (.string ⟨#[]⟩)) = WF at *
          refine bodyPost_ret (v := .tuple #[.agg #[.int .i64 x.b, .int .i64 x.c, .int .i64 x.j, .int .i64 4, .int .i64 x.n, .int .i64 at_, .slice pF x.F.length cF, .slice none 0 0, .int .i64 start, .int .i64 now, .string ⟨#[]⟩], v']) ?_ rfl ⟨_, _, rfl, ?_, ?_, ?_⟩
          · simp [results, Tryz.results52, go_sem, k0, k1, k2, k3, k4, k5, k6, k7, k8, k9, k10]
          · rw [goL_off (show ¬ now < x.E by have := HE.out; omega)]
            exact rf_calm HF.out (good_calm HG.out 4 (by omega) (by omega) (by omega)) (by omega) (by omega) (by omega)
          · rw [goO_off (show ¬ now < x.E by have := HE.out; omega), HTX.out, oW_one HH.out]
            have h1 := own_out (own2_base HOW6.out (show w.heap.size ≤ w3.heap.size by omega)) hO3 fun g hg e => by have := (own_lt HOW6.out hg).1; omega
            have := own_out h1 hOUT fun g hg e => by have := (own_lt HOW6.out hg).1; omega
            exact mineO_more (x := (3, x.H)) this HLU.out.symm
          · have hO9 : Out (fun i => i = w.heap.size ∨ i = w.heap.size + 1) w6 WF := (hO3.mono fun _ _ e => .inl e).trans (hOUT.mono fun _ _ e => .inr e) fun _ _ h => h
            have h6 := (HB5.out.alloc HB5.out.size (.cells #[.int .i64 3, .string ⟨x.H.toArray⟩] 62 (0, 0))).grown HGR.out (by simp; have := HB5.out.size; omega) fun k' hk' => by have := (own_lt HOW5.out hk').1; omega
            exact h6.trans (hO9.below h6.size fun i e => by omega)

end
end Go.Proofs.YtnkhdpenmekhdaaGreat.Lin
end


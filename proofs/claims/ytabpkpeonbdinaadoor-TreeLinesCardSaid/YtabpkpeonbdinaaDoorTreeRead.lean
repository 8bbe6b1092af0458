/-
  Layer 13 (tree): Read.
-/
import Derived.Test.YtabpkpeonbdinaaDoorTreeCatch
import Derived.Test.YtabpkpeonbdinaaDoorLexOwnPcs
namespace Go.Proofs.YtabpkpeonbdinaaDoor.Tree
open Go.RowKit Go.Stop Go.Proofs.YtabpkpeonbdinaaDoor.Own Go.Proofs.YtabpkpeonbdinaaDoor.Rw Go.Proofs.YtabpkpeonbdinaaDoor.Lex

theorem read_code : ∀ (f : Nat) (acc : List Pc) (l : List UInt8) (line : Int), l.length < f → ∀ c n, read f acc l line = .err c n → c ≠ 0
  | 0, _, _, _, h, _, _, _ => by omega
  | f + 1, acc, l, line, h, c, n, e => by
    by_cases hl : l = []
    · subst hl; rw [read_nil] at e; cases e
    · by_cases h8 : acc.length = 8192
      · rw [read_many _ hl h8] at e; cases e; decide
      · cases e1 : first l with
        | none => rw [read_bad _ hl h8 e1] at e; cases e; decide
        | some x =>
          obtain ⟨k, t, m⟩ := x
          have := first_le e1
          rw [read_some _ hl h8 e1] at e
          exact read_code f _ _ _ (by rw [List.length_drop, List.length_drop]; omega) c n e
theorem total_code {l : List UInt8} {c n : Int} (h : total l = .err c n) : c ≠ 0 := by
  by_cases hb : 65536 < l.length
  · rw [total_big hb] at h; cases h; decide
  · rw [total_fit hb] at h
    exact read_code _ _ _ _ (by rw [List.length_drop]; omega) c n h
theorem read_few : ∀ (f : Nat) (acc : List Pc) (l : List UInt8) (line : Int), acc.length ≤ 8192 → ∀ P, read f acc l line = .ok P → P.length ≤ 8192
  | 0, _, _, _, _, _, e => by cases e
  | f + 1, acc, l, line, h, P, e => by
    by_cases hl : l = []
    · subst hl; rw [read_nil] at e; cases e; exact h
    · by_cases h8 : acc.length = 8192
      · rw [read_many _ hl h8] at e; cases e
      · cases e1 : first l with
        | none => rw [read_bad _ hl h8 e1] at e; cases e
        | some x =>
          obtain ⟨k, t, m⟩ := x
          rw [read_some _ hl h8 e1] at e
          exact read_few f _ _ _ (by rw [List.length_append, List.length_singleton]; omega) P e
theorem total_few {l : List UInt8} {P : List Pc} (h : total l = .ok P) : P.length ≤ 8192 := by
  by_cases hb : 65536 < l.length
  · rw [total_big hb] at h; cases h
  · rw [total_fit hb] at h
    exact read_few _ _ _ _ (by simp) P h
theorem argsOf_code (last : Int) : ∀ (r : List Pc) (al : List (List UInt8)) (c n : Int), argsOf last al r = .bad c n → c ≠ 0
  | [], _, c, n, h => by cases h; decide
  | p :: r, al, c, n, h => by
    rw [argsOf] at h
    by_cases h1 : p.kind = 1 ∨ p.kind = 2
    · rw [if_pos h1] at h
      by_cases h2 : al.length = 16
      · rw [if_pos h2] at h; cases h; decide
      · rw [if_neg h2] at h; exact argsOf_code last r _ c n h
    · rw [if_neg h1] at h
      by_cases h3 : p.kind = 3
      · rw [if_pos h3] at h; cases h
      · rw [if_neg h3] at h
        by_cases h5 : p.kind = 5
        · rw [if_pos h5] at h; cases h
        · rw [if_neg h5] at h; cases h; decide
theorem stm_code (last : Int) {B : Nat → List Pc → Rs (List Nd)} (hB : ∀ d r c n, B d r = .bad c n → c ≠ 0) (d : Nat) (k : Pc) (r : List Pc) (c n : Int) (h : stm last B d k r = .bad c n) : c ≠ 0 := by
  unfold stm at h
  by_cases h1 : k.kind = 1
  · rw [if_pos h1] at h
    have ha := argsOf_code last r []
    generalize argsOf last [] r = A at h ha
    cases A with
    | bad c' n' => cases h; exact ha _ _ rfl
    | ok a r1 =>
      obtain ⟨al, o⟩ := a
      cases o with
      | none => cases h
      | some l =>
        by_cases h4 : d = 4
        · have h : (if d = 4 then Rs.bad 15 l else _) = _ := h
          rw [if_pos h4] at h; cases h; decide
        · have h : (if d = 4 then _ else (match B (d + 1) r1 with | .bad c l => Rs.bad c l | .ok ns r2 => Rs.ok (Nd.mk k.text al true ns k.line) r2)) = _ := h
          rw [if_neg h4] at h
          have hb := hB (d + 1) r1
          generalize B (d + 1) r1 = b at h hb
          cases b with
          | bad c' n' => cases h; exact hb _ _ rfl
          | ok ns r2 => cases h
  · rw [if_neg h1] at h; cases h; decide
theorem blk_code (last : Int) : ∀ (f d : Nat) (acc : List Nd) (r : List Pc) (c n : Int), blk last f d acc r = .bad c n → c ≠ 0
  | 0, _, _, _, _, _, h => by cases h; decide
  | f + 1, d, acc, [], c, n, h => by cases h; decide
  | f + 1, d, acc, p :: r, c, n, h => by
    by_cases h4 : p.kind = 4
    · rw [blk_close _ _ _ _ h4] at h; cases h
    · cases e : stm last (fun d r => blk last f d [] r) d p r with
      | bad c' n' => rw [blk_bad _ _ _ _ h4 e] at h; cases h; exact stm_code last (fun d r c n h => blk_code last f d [] r c n h) d p r _ _ e
      | ok x r1 => rw [blk_ok _ _ _ _ h4 e] at h; exact blk_code last f d _ r1 c n h
theorem alls_code (last : Int) : ∀ (f : Nat) (acc : List Nd) (r : List Pc) (c n : Int), alls last f acc r = .bad c n → c ≠ 0
  | 0, _, _, _, _, h => by cases h; decide
  | f + 1, acc, [], c, n, h => by cases h
  | f + 1, acc, p :: r, c, n, h => by
    cases e : stm last (fun d r => blk last f d [] r) 0 p r with
    | bad c' n' => rw [alls_bad _ _ _ e] at h; cases h; exact stm_code last (fun d r c n h => blk_code last f d [] r c n h) 0 p r _ _ e
    | ok x r1 => rw [alls_ok _ _ _ e] at h; exact alls_code last f _ r1 c n h

/-- what Read answers, in memory -/
structure TrRes (t : Tr) (w w' : World) (v u : Value) : Prop where
  fo : Fo w.heap.size w' v t.nds
  below : Below w.heap.size w w'
  err : ∃ lay, Flt.ErrN w' w'.heap.size u lay t.code ∧ Flt.lineOf lay = (if 0 < t.line then t.line else 0) ∧ lay.length ≤ 1
  none : t.code = 0 → u = .nilIface
  some : t.code ≠ 0 → ∃ t x, u = .iface t x
theorem line_pos : ∀ (l : List Flt.Lay), 0 ≤ Flt.lineOf l
  | [] => by rw [Flt.lineOf_nil]; decide
  | x :: r => by
    by_cases h : 0 < x.line
    · rw [Flt.lineOf_some h]; omega
    · rw [Flt.lineOf_none h]; exact line_pos r
theorem err_apart {w w' : World} {b : Nat} {cs : Array Value} {T : TypeId} {fr : Nat × Nat} (hb : w.heap[b]? = Option.some (.cells cs T fr)) (hT : T ≠ 51) (ho : Out (fun i => i = b) w w') :
    ∀ {l : List Flt.Lay} {N : Nat} {v : Value} {c : Int}, Flt.Err w N v l c → Flt.Err w' N v l c
  | [], _, _, _, h => h
  | x :: r, _, _, _, ⟨h1, h2, u, h3, h4⟩ => ⟨h1, h2, u, ho.at_ h3 (fun e => by rw [e, hb] at h3; simp at h3; exact hT h3.2.1), err_apart hb hT ho h4⟩
theorem errN_apart {w w' : World} {b : Nat} {cs : Array Value} {T : TypeId} {fr : Nat × Nat} (hb : w.heap[b]? = Option.some (.cells cs T fr)) (hT : T ≠ 51) (ho : Out (fun i => i = b) w w')
    {l : List Flt.Lay} {N : Nat} {v : Value} {c : Int} (h : Flt.ErrN w N v l c) : Flt.ErrN w' N v l c := h.imp id (err_apart hb hT ho)

set_option maxRecDepth 100000 in
set_option maxHeartbeats 4000000 in
theorem read_calls (s : ByteArray) (w : World) :
    Calls Tryd.prog 5 #[.string s] w fun e w' => ∃ v u, e = .returned (.tuple #[v, u]) ∧ TrRes (readT s.data.toList) w w' v u := by
  have hmf : ∀ (fn : Fn) (first cap : Array Value) (w : World), (Instr.makeFunc fn first cap).run Tryd.prog w = .ok (.func fn first cap) w := fun _ _ _ _ => rfl
  have HR := Lib.hid (Lex.read_calls s)
  unfold ReadPost at HR
  go_enter_defers Tryd.func5, Tryd.ntmps5
  go_wp2_with fail
  refine (HR.out _).mono ?_
  rintro e w1 ⟨v, u, rfl, h1⟩
  have eb : w1.heap[w.heap.size]? = Option.some (.cells #[.nilIface] 25 (0, 0)) := (h1.below.block _ (by simp)).trans (at_new w _)
  have e0 : w1.cell? ⟨w.heap.size, 0, Option.none⟩ = Option.some .nilIface := at_cell eb 0
  have f0 : w1.frozen? ⟨w.heap.size, 0, Option.none⟩ = false := at_frozen eb 0
  have lt1 := at_lt eb
  cases ht : total s.data.toList with
  | err c n =>
    rw [ht] at h1
    have hc := total_code ht
    obtain ⟨T, x, rfl⟩ := h1.some hc
    have HT := Lib.hid (show readT s.data.toList = .err c n by unfold readT; rw [ht])
    have H1 := Lib.hid h1
    have EB := Lib.hid eb
    clear h1 ht
    go_wp2_with fail
    go_region
    go_wp2_with fail
    have E2 := at_set (at_set EB.out 0 (.iface T x)) 0 (.iface T x)
    have e2 : ((w1.setCell ⟨w.heap.size, 0, Option.none⟩ (.iface T x)).setCell ⟨w.heap.size, 0, Option.none⟩ (.iface T x)).drew.cell? ⟨w.heap.size, 0, Option.none⟩ = Option.some (.iface T x) := at_cell E2 0
    have S2 : Out (fun i => i = w.heap.size) w1 ((w1.setCell ⟨w.heap.size, 0, Option.none⟩ (.iface T x)).setCell ⟨w.heap.size, 0, Option.none⟩ (.iface T x)).drew := (((Out.refl (fun i => i = w.heap.size) w1).setCell (p := ⟨w.heap.size, 0, Option.none⟩) (fun _ => rfl) _).setCell (p := ⟨w.heap.size, 0, Option.none⟩) (fun _ => rfl) _).drew
    generalize ((w1.setCell ⟨w.heap.size, 0, Option.none⟩ (.iface T x)).setCell ⟨w.heap.size, 0, Option.none⟩ (.iface T x)).drew = w3 at *
    simp [bodyPostD, Leaves, results, Tryd.results5, go_sem, e2]
    refine ⟨_, _, ⟨rfl, rfl⟩, ?_⟩
    rw [HT.out]
    obtain ⟨lay, hE, hl, hl1⟩ := H1.out.err
    refine ⟨Fo.nil _ _, ?_, ⟨lay, ?_, ?_, hl1⟩, fun h => absurd h hc, fun _ => ⟨_, _, rfl⟩⟩
    · exact (((Below.refl _ _).alloc (Nat.le_refl _) _).trans (H1.out.below.mono (by simp))).trans (S2.below (B := w.heap.size) (by omega) fun i e => by omega)
    · exact (errN_apart EB.out (by decide) S2 hE).imp id fun h => h.more S2.size
    · have := line_pos lay
      show _ = if 0 < n then n else 0
      rw [hl] at this ⊢
      have h0 : 0 ≤ n := this
      show n = _
      split <;> omega
  | ok P =>
    rw [ht] at h1
    obtain rfl := h1.none rfl
    have HF := Lib.hid (total_few ht)
    have HT := Lib.hid (show readT s.data.toList = (match treeOf P with | .bad c n => .err c n | .ok l _ => .ok l) by unfold readT; rw [ht]; rfl)
    have HB := Lib.hid h1.below
    obtain ⟨p, c, rfl, hp⟩ := own_pcs (n := P.length) h1.own rfl
    have HP := Lib.hid (show Pcs w1 P p c from hp)
    have EB := Lib.hid eb
    have HPB := Lib.hid (show ∀ a, p = Option.some a → w.heap.size < a.block ∧ a.block < w1.heap.size by
      rintro a rfl
      have := World.ownsRow.lt h1.own a.block rfl
      rw [show (w.alloc (.cells #[.nilIface] 25)).heap.size = w.heap.size + 1 by simp] at this
      exact ⟨by omega, this.2⟩)
    clear h1 hp ht
    go_wp2_with fail
    have S1 := (Out.refl (fun i => i = w.heap.size) w1).setCell (p := ⟨w.heap.size, 0, Option.none⟩) (fun _ => rfl) .nilIface
    have s1 := S1.size
    have E1 := at_set EB.out 0 .nilIface
    have B1 : Below w.heap.size w (w1.setCell ⟨w.heap.size, 0, Option.none⟩ .nilIface) := ((Below.refl _ _).alloc (Nat.le_refl _) _ |>.trans (HB.out.mono (by simp))).setCell (p := ⟨w.heap.size, 0, Option.none⟩) (Nat.le_refl _) _
    have P1 := HP.out.out S1 fun a e => by have := (HPB.out a e).1; omega
    have z1 : (w1.setCell ⟨w.heap.size, 0, Option.none⟩ .nilIface).heap.size = w1.heap.size := by simp [World.setCell]
    generalize w1.setCell ⟨w.heap.size, 0, Option.none⟩ .nilIface = w2 at *
    have R2 : Rd (w2.alloc (.cells #[.slice p P.length c, .int .i64 0] 45)) P p c w1.heap.size 0 :=
      ⟨at_newk _ _ z1.symm, P1.kept ((Below.refl _ _).alloc (Nat.le_refl _) _), fun a e => by have := (HPB.out a e).2; omega, Nat.zero_le _, by have := HF.out; omega⟩
    refine (all_calls P p c w1.heap.size _ R2 fun a e => by have := (HPB.out a e).2; simp; omega).mono ?_
    intro e w5 hPost
    have HT' := HT.out
    generalize hr0 : treeOf P = r at hPost HT' 
    have E2 := at_old w2 (.cells #[.slice p P.length c, .int .i64 0] 45) E1
    cases hPost with
    | @bad cd n hG =>
      obtain ⟨g, rfl, hf, ho⟩ := hG
      have E5 := ho.at_ E2 (by show ¬ _ = w1.heap.size; omega)
      refine leaves_cons (f := 12) (args := #[.pointer (Option.some ⟨w.heap.size, 0, Option.none⟩)]) (by simp) (by simp [go_sem]) ?_
      refine (catch_panicking ⟨w.heap.size, 0, Option.none⟩ .nilIface _ [] _ (at_cell E5 0) (at_frozen E5 0)).mono ?_
      rintro e u' w'' ⟨rfl, rfl, rfl⟩
      have E6 := at_set E5 0 (.iface 49 (.pointer (Option.some ⟨g, 0, Option.none⟩)))
      have e6 : (w5.setCell ⟨w.heap.size, 0, Option.none⟩ (.iface 49 (.pointer (Option.some ⟨g, 0, Option.none⟩)))).cell? ⟨w.heap.size, 0, Option.none⟩ = Option.some (.iface 49 (.pointer (Option.some ⟨g, 0, Option.none⟩))) := at_cell E6 0
      have S6 := (Out.refl (fun i => i = w.heap.size) w5).setCell (p := ⟨w.heap.size, 0, Option.none⟩) (fun _ => rfl) (.iface 49 (.pointer (Option.some ⟨g, 0, Option.none⟩)))
      generalize w5.setCell ⟨w.heap.size, 0, Option.none⟩ (.iface 49 (.pointer (Option.some ⟨g, 0, Option.none⟩))) = w6 at *
      simp [Leaves, settle, results, Tryd.results5, go_sem, e6]
      refine ⟨_, _, ⟨rfl, rfl⟩, ?_⟩
      have HT2 : readT s.data.toList = .err cd n := HT'
      rw [HT2]
      have hc : cd ≠ 0 := alls_code _ _ _ _ _ _ hr0
      have f6 : faultAt w6 g cd n := S6.at_ hf fun e => by
        subst e
        unfold faultAt at hf
        rw [E5] at hf
        simp at hf
      refine ⟨Fo.nil _ _, ?_, ⟨[⟨g, n, []⟩], .inr ⟨rfl, at_lt f6, _, f6, rfl⟩, ?_, Nat.le_refl _⟩, fun h => absurd h hc, fun _ => ⟨_, _, rfl⟩⟩
      · exact ((B1.alloc (by omega) _).trans (ho.below (B := w.heap.size) (by simp; omega) fun i e => by have e : i = w1.heap.size := e; omega)).trans (S6.below (B := w.heap.size) (by have := at_lt E5; omega) fun i e => by omega)
      · show (if 0 < n then n else 0) = _
        rfl
    | @ok ns k1 v1 he hF hr hk ho =>
      subst he
      have E5 := ho.at_ E2 (by show ¬ _ = w1.heap.size; omega)
      have e5 : w5.cell? ⟨w.heap.size, 0, Option.none⟩ = Option.some .nilIface := at_cell E5 0
      have f5 : w5.frozen? ⟨w.heap.size, 0, Option.none⟩ = false := at_frozen E5 0
      go_wp2_with fail
      have E6 := at_set E5 0 .nilIface
      have e6 : (w5.setCell ⟨w.heap.size, 0, Option.none⟩ .nilIface).cell? ⟨w.heap.size, 0, Option.none⟩ = Option.some .nilIface := at_cell E6 0
      have S6 := (Out.refl (fun i => i = w.heap.size) w5).setCell (p := ⟨w.heap.size, 0, Option.none⟩) (fun _ => rfl) .nilIface
      generalize w5.setCell ⟨w.heap.size, 0, Option.none⟩ .nilIface = w6 at *
      refine leaves_cons (f := 12) (args := #[.pointer (Option.some ⟨w.heap.size, 0, Option.none⟩)]) (by simp) (by simp [go_sem]) ?_
      refine (catch_idle ⟨w.heap.size, 0, Option.none⟩ _).mono ?_
      rintro e u' w'' ⟨rfl, rfl, rfl⟩
      simp [Leaves, settle, results, Tryd.results5, go_sem, e6]
      refine ⟨_, _, ⟨rfl, rfl⟩, ?_⟩
      have HT2 : readT s.data.toList = .ok ns := HT'
      rw [HT2]
      refine ⟨?_, ?_, ⟨[], .inl ⟨rfl, rfl, rfl⟩, rfl, Nat.zero_le _⟩, fun _ => rfl, fun h => absurd rfl h⟩
      · exact (hF.out S6 fun i e => by rw [show (w2.alloc _).heap.size = w2.heap.size + 1 by simp]; omega).base (by rw [show (w2.alloc _).heap.size = w2.heap.size + 1 by simp]; omega)
      · exact ((B1.alloc (by omega) _).trans (ho.below (B := w.heap.size) (by simp; omega) fun i e => by have e : i = w1.heap.size := e; omega)).trans (S6.below (B := w.heap.size) (by have := at_lt E5; omega) fun i e => by omega)
end Go.Proofs.YtabpkpeonbdinaaDoor.Tree

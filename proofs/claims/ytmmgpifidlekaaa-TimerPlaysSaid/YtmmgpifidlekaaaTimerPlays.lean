/-
  Layer 6 (timer): the law of whatever is set, moved, cancelled and asked for, walked over the timer's face.
-/
import Derived.Test.YtmmgpifidlekaaaTimerSame
import Derived.Test.YtmmgpifidlekaaaArgs
import Derived.Deep.DeepCutAuto
import Derived.Deep.CutBlock
namespace Go.Proofs.Ytmmgpifidlekaaa.Timer
open Go.RowKit Go.Proofs.Ytmmgpifidlekaaa.Own Go.Proofs.Ytmmgpifidlekaaa.Hp

/-- the timer and the document's own, side by side: w the world at first, X the document's block -/
structure Play (IsT : TRel) (w wr : World) (X tb : Nat) (most : Int) (L : List Ent) (p : Option Addr) (c : Nat) (bs : Nat → Prop) : Prop where
  own : IsT wr bs tb most L
  bsw : ∀ k, bs k → w.heap.size ≤ k ∧ k ≠ X
  box : wr.heap[X]? = some (.cells #[.slice p L.length c, .int .i64 most] 30 (0, 0))
  es : Es wr (.slice p L.length c) L p c
  off : ∀ b o, p = some ⟨b, o, none⟩ → ¬ bs b ∧ b ≠ X ∧ b < wr.heap.size
  low : Below w.heap.size w wr
  hX : w.heap.size ≤ X

def Next (IsT : TRel) (w wx : World) (X tb : Nat) (most : Int) (s9 : Value) : Prop := ∃ L p c bs, s9 = .bool true ∧ Play IsT w wx X tb most L p c bs
def Round (IsT : TRel) (w wr : World) (X tb : Nat) (most : Int) (n : Nat) (z : Value) : Prop := ∃ (i : Nat) (L : List Ent) (p : Option Addr) (c : Nat) (bs : Nat → Prop), i ≤ n ∧ z = .int .i64 i ∧ Play IsT w wr X tb most L p c bs
/-- behind the document's own act: a new block Y holds what it answers -/
structure Mid (wr wx : World) (Y : Nat) (most : Int) (p : Option Addr) (L' : List Ent) (p' : Option Addr) (c' : Nat) : Prop where
  box : wx.heap[Y]? = some (.cells #[.slice p' L'.length c', .int .i64 most] 30 (0, 0))
  new : wr.heap.size ≤ Y
  low : Below wr.heap.size wr wx
  es : Es wx (.slice p' L'.length c') L' p' c'
  loc : ∀ b o, p' = some ⟨b, o, none⟩ → b ≠ Y ∧ b < wx.heap.size ∧ ((∃ o', p = some ⟨b, o', none⟩) ∨ wr.heap.size ≤ b)

section
variable {IsT : TRel} {w wr : World} {X tb : Nat} {most : Int} {L L' : List Ent} {p p' : Option Addr} {c c' : Nat} {bs : Nat → Prop}

theorem row2 {W : World} {N : Nat} {x y : Value} {T : TypeId} {fr : Nat × Nat} (h : W.heap[N]? = some (.cells #[x, y] T fr)) : W.cell? ⟨N, 0, none⟩ = some x ∧ W.cell? ⟨N, 1, none⟩ = some y :=
  ⟨by rw [at_cell h]; rfl, by rw [at_cell h]; rfl⟩
theorem out_two (W : World) (N : Nat) (a b : Value) : Out (fun k => k = N) W ((W.setCell ⟨N, 0, none⟩ a).setCell ⟨N, 1, none⟩ b) :=
  ((Out.refl (fun k => k = N) W).setCell (p := ⟨N, 0, none⟩) (fun _ => rfl) a).setCell (p := ⟨N, 1, none⟩) (fun _ => rfl) b
theorem row_two {W : World} {N : Nat} {x y : Value} {T : TypeId} {fr : Nat × Nat} (h : W.heap[N]? = some (.cells #[x, y] T fr)) (a b : Value) :
    ((W.setCell ⟨N, 0, none⟩ a).setCell ⟨N, 1, none⟩ b).heap[N]? = some (.cells #[a, b] T fr) := by
  rw [at_set (at_set h 0 a) 1 b]; rfl

theorem Es.out {S : Nat → Prop} {W W' : World} {v : Value} (h : Es W v L p c) (ho : Out S W W') (hs : ∀ b o, p = some ⟨b, o, none⟩ → ¬ S b) : Es W' v L p c :=
  ⟨h.val, h.cap, h.max, h.nil, fun i hi => by
    obtain ⟨b, o, e, c1, c2⟩ := h.cells i hi
    exact ⟨b, o, e, (ho.cell (World.block_lt_of_cell? W _ c1) (hs b o e)).trans c1, (ho.cell (World.block_lt_of_cell? W _ c2) (hs b o e)).trans c2⟩⟩

theorem Play.same (F : Face IsT) {w' : World} (h : Play IsT w wr X tb most L p c bs) (hb : Below wr.heap.size wr w') : Play IsT w w' X tb most L p c bs :=
  ⟨F.below h.own hb, h.bsw, (hb.block X (at_lt h.box)).trans h.box, h.es.kept hb, fun b o e => ⟨(h.off b o e).1, (h.off b o e).2.1, Nat.lt_of_lt_of_le (h.off b o e).2.2 hb.size⟩, h.low.trans (hb.mono h.low.size), h.hX⟩

/-- .. the slots that tell of it -/
def AtMid (wr wx : World) (most : Int) (p : Option Addr) (L' : List Ent) (v s10 s11 : Value) : Prop := ∃ Y p' c', s10 = .pointer (some ⟨Y, 0, none⟩) ∧ s11 = v ∧ Mid wr wx Y most p L' p' c'
theorem mid_a {w5 : World} (hp : ∀ b o, p = some ⟨b, o, none⟩ → b < wr.heap.size) (h : Below wr.drew.heap.size wr.drew w5) (he : Es w5 (.slice p' L'.length c') L' p' c') (hl : Loc wr.drew w5 p p') :
    Mid wr (w5.alloc (.cells #[.slice p' L'.length c', .int .i64 most] 30)) w5.heap.size most p L' p' c' := by
  have hb : Below wr.heap.size wr w5 := (Below.drew (Below.refl wr.heap.size wr)).trans h
  refine ⟨at_new _ _, h.size, hb.alloc h.size _, he.kept ((Below.refl _ _).alloc (Nat.le_refl _) _), fun b o e => ?_⟩
  rcases hl b o e with ⟨o', e'⟩ | ⟨h1, h2⟩
  · have h3 := hp b o' e'
    have h4 := hb.size
    exact ⟨by omega, by simp; omega, .inl ⟨o', e'⟩⟩
  · exact ⟨by omega, by simp; omega, .inr h1⟩
theorem mid_b {w5 : World} {x y : Value} (hp : ∀ b o, p = some ⟨b, o, none⟩ → b < wr.heap.size) (h : Below (wr.drew.alloc (.cells #[x, y] 30)).heap.size (wr.drew.alloc (.cells #[x, y] 30)) w5)
    (he : Es w5 (.slice p' L'.length c') L' p' c') (hl : Loc (wr.drew.alloc (.cells #[x, y] 30)) w5 p p') :
    Mid wr ((w5.setCell ⟨wr.heap.size, 0, none⟩ (.slice p' L'.length c')).setCell ⟨wr.heap.size, 1, none⟩ (.int .i64 most)) wr.heap.size most p L' p' c' := by
  have h1 : Below wr.heap.size wr (wr.drew.alloc (.cells #[x, y] 30)) := (Below.drew (Below.refl wr.heap.size wr)).alloc (Nat.le_refl _) _
  have hb : Below wr.heap.size wr w5 := h1.trans (h.mono (by simp))
  have hne : ∀ b o, p' = some ⟨b, o, none⟩ → b ≠ wr.heap.size ∧ b < w5.heap.size ∧ ((∃ o', p = some ⟨b, o', none⟩) ∨ wr.heap.size ≤ b) := fun b o e => by
    rcases hl b o e with ⟨o', e'⟩ | ⟨h2, h3⟩
    · have h4 := hp b o' e'
      have h5 := hb.size
      exact ⟨by omega, by omega, .inl ⟨o', e'⟩⟩
    · simp at h2
      exact ⟨by omega, h3, .inr (by omega)⟩
  refine ⟨row_two ((h.block wr.heap.size (by simp)).trans (at_newk wr.drew _ rfl)) _ _, Nat.le_refl _, hb.trans ((out_two w5 wr.heap.size _ _).below hb.size (fun i e => by omega)), he.out (out_two w5 wr.heap.size _ _) (fun b o e => (hne b o e).1), fun b o e => ⟨(hne b o e).1, by simpa using (hne b o e).2.1, (hne b o e).2.2⟩⟩

/-- behind the program's own act: the document's answer is laid in X -/
theorem play_next (F : Face IsT) {wc w6 : World} {Y : Nat} (h : Play IsT w wr X tb most L p c bs) (hm : Mid wr wc Y most p L' p' c') (hd : Does IsT wc bs w6 tb most L') :
    ∃ bs', Play IsT w ((w6.setCell ⟨X, 0, none⟩ (.slice p' L'.length c')).setCell ⟨X, 1, none⟩ (.int .i64 most)) X tb most L' p' c' bs' := by
  obtain ⟨bs', h1, h2, h3⟩ := hd
  have hx := at_lt h.box
  have hs1 := hm.low.size
  have hbX : ¬ bs X := fun hk => (h.bsw X hk).2 rfl
  have hlt : ∀ k, bs k → k < wr.heap.size := F.blocks h.own
  have b6 : w6.heap[X]? = some (.cells #[.slice p L.length c, .int .i64 most] 30 (0, 0)) := (h2.block X (by omega) hbX).trans ((hm.low.block X hx).trans h.box)
  have hpn : ∀ b o, p' = some ⟨b, o, none⟩ → ¬ bs b ∧ b ≠ X ∧ b < wc.heap.size := fun b o e => by
    obtain ⟨_, k2, k3⟩ := hm.loc b o e
    rcases k3 with ⟨o', e'⟩ | k3
    · exact ⟨(h.off b o' e').1, (h.off b o' e').2.1, k2⟩
    · exact ⟨fun hb => by have := hlt b hb; omega, by omega, k2⟩
  have hlow : Below w.heap.size w wc := h.low.trans (hm.low.mono h.low.size)
  have hb'X : ∀ k, bs' k → w.heap.size ≤ k ∧ k ≠ X := fun k hk => by
    rcases h3 k hk with h4 | h4
    · exact h.bsw k h4
    · have := hlow.size; exact ⟨by omega, by omega⟩
  have hs2 := h2.size
  refine ⟨bs', F.out h1 (out_two w6 X _ _) (fun k hk => (hb'X k hk).2), hb'X, row_two b6 _ _, (hm.es.out h2 (fun b o e => (hpn b o e).1)).out (out_two w6 X _ _) (fun b o e => (hpn b o e).2.1), fun b o e => ?_, ?_, h.hX⟩
  · obtain ⟨k1, k2, k3⟩ := hpn b o e
    refine ⟨fun hk => ?_, k2, by simp; omega⟩
    rcases h3 b hk with h4 | h4
    · exact k1 h4
    · omega
  · exact (hlow.trans (h2.below hlow.size (fun k hk => (h.bsw k hk).1))).trans ((out_two _ _ _ _).below (Nat.le_trans hlow.size hs2) (fun i e => by subst e; exact h.hX))

theorem held_two {W w' : World} {lb o1 o2 : Nat} {v0 v1 v3 v4 : Value} (h1 : X < W.heap.size) (h2 : lb < W.heap.size) (x0 : W.cell? ⟨X, 0, none⟩ = some v0) (x1 : W.cell? ⟨X, 1, none⟩ = some v1) (c1 : W.cell? ⟨lb, o1, none⟩ = some v3) (c2 : W.cell? ⟨lb, o2, none⟩ = some v4)
    (S : Nat → Prop) (ho : Out S W w') (nx : ¬ S X) (nl : ¬ S lb) : X < w'.heap.size ∧ lb < w'.heap.size ∧ w'.cell? ⟨X, 0, none⟩ = some v0 ∧ w'.cell? ⟨X, 1, none⟩ = some v1 ∧ w'.cell? ⟨lb, o1, none⟩ = some v3 ∧ w'.cell? ⟨lb, o2, none⟩ = some v4 :=
  ⟨Nat.lt_of_lt_of_le h1 ho.size, Nat.lt_of_lt_of_le h2 ho.size, (ho.cell h1 nx).trans x0, (ho.cell h1 nx).trans x1, (ho.cell h2 nl).trans c1, (ho.cell h2 nl).trans c2⟩
theorem held_at {W w' : World} {lb o1 : Nat} {x y v3 : Value} {T : TypeId} (hx : W.heap[X]? = some (.cells #[x, y] T (0, 0))) (h2 : lb < W.heap.size) (c1 : W.cell? ⟨lb, o1, none⟩ = some v3)
    (hb : Below W.drew.heap.size W.drew w') : w'.cell? ⟨X, 0, none⟩ = some x ∧ w'.cell? ⟨X, 1, none⟩ = some y ∧ w'.cell? ⟨lb, o1, none⟩ = some v3 := by
  obtain ⟨a, b⟩ := row2 ((hb.block X (at_lt hx)).trans hx)
  exact ⟨a, b, (hb.cell (p := ⟨lb, o1, none⟩) h2).trans c1⟩
theorem held_x {W w' : World} {x y : Value} {T : TypeId} (hx : W.heap[X]? = some (.cells #[x, y] T (0, 0))) (hb : Below W.drew.heap.size W.drew w') : w'.cell? ⟨X, 0, none⟩ = some x :=
  (row2 ((hb.block X (at_lt hx)).trans hx)).1
theorem loc_new {W w' : World} (l : p' = none ∨ ∃ b, W.heap.size ≤ b ∧ p' = some ⟨b, 0, none⟩ ∧ b < w'.heap.size) : Loc W w' p p' := by
  intro b o e
  rcases l with h | ⟨b', h1, h2, h3⟩
  · rw [h] at e; cases e
  · rw [h2] at e; cases e; exact .inr ⟨h1, h3⟩
theorem own_shape {W : World} {B : Nat} {u : Value} {D : List Ent} (h : W.ownsRow B 3 1 u D.length (iv (D.map (·.1)))) :
    ∃ q d, u = .slice q D.length d ∧ Si W (D.map (·.1)) q d ∧ ∀ g, q = some ⟨g, 0, none⟩ → B ≤ g ∧ g < W.heap.size := by
  have h' := h
  rcases h.2 with ⟨rfl, h0⟩ | ⟨g, cap, cur, rfl, h1, h2, _⟩
  · rw [h0] at h' ⊢
    exact ⟨none, 0, rfl, owns_si h' (by rw [List.length_map, h0]), fun g e => nomatch e⟩
  · exact ⟨some ⟨g, 0, none⟩, cap, rfl, owns_si h' (by rw [List.length_map]), fun g' e => by cases e; exact ⟨h1, at_lt h2⟩⟩
theorem Si.out {S : Nat → Prop} {W W' : World} {A : List Int} {q : Option Addr} {d : Nat} (h : Si W A q d) (ho : Out S W W') (hs : ∀ g, q = some ⟨g, 0, none⟩ → ¬ S g) : Si W' A q d :=
  ⟨h.cap, h.max, h.cells.imp _root_.id fun ⟨g, e, k⟩ => ⟨g, e, fun i hi => (ho.cell (World.block_lt_of_cell? W _ (k i hi)) (hs g e)).trans (k i hi)⟩⟩
/-- behind the document's Due: the row of those who are told lies in a block of its own -/
def AtDue (wr wx : World) (most : Int) (p : Option Addr) (L' D : List Ent) (s14 s15 : Value) : Prop := ∃ Y p' c' q d, s14 = .pointer (some ⟨Y, 0, none⟩) ∧ s15 = .slice q D.length d ∧ Mid wr wx Y most p L' p' c' ∧ Si wx (D.map (·.1)) q d ∧ ∀ g, q = some ⟨g, 0, none⟩ → wr.heap.size ≤ g
theorem due_a {w5 : World} {A : List Int} {q : Option Addr} {d : Nat} (hs : Si w5 A q d) (o : Obj) : Si (w5.alloc o) A q d := hs.kept ((Below.refl _ _).alloc (Nat.le_refl _) _)
theorem due_b {w5 : World} {A : List Int} {q : Option Addr} {d : Nat} {x y : Value} (hs : Si w5 A q d) (hg : ∀ g, q = some ⟨g, 0, none⟩ → (wr.drew.alloc (.cells #[x, y] 30)).heap.size ≤ g ∧ g < w5.heap.size) (a b : Value) :
    Si ((w5.setCell ⟨wr.heap.size, 0, none⟩ a).setCell ⟨wr.heap.size, 1, none⟩ b) A q d :=
  hs.out (out_two w5 wr.heap.size a b) fun g e h => by have := (hg g e).1; simp at this; omega
theorem does_below (F : Face IsT) {W w' w'' : World} (h : Does IsT W bs w' tb most L) (hb : Below w'.heap.size w' w'') : Does IsT W bs w'' tb most L := by
  obtain ⟨bs', h1, h2, h3⟩ := h
  exact ⟨bs', F.below h1 hb, h2.trans (Out.ofNew (S := fun _ => False) hb) (fun _ _ h => h.elim), h3⟩
theorem held_y {W w' : World} {Y lb o1 o2 : Nat} {v0 v1 v3 v4 : Value} (h1 : Y < W.heap.size) (h2 : lb < W.heap.size) (x0 : W.cell? ⟨Y, 0, none⟩ = some v0) (x1 : W.cell? ⟨Y, 1, none⟩ = some v1) (c1 : W.cell? ⟨lb, o1, none⟩ = some v3) (c2 : W.cell? ⟨lb, o2, none⟩ = some v4)
    (S : Nat → Prop) (ho : Out S W w') (nx : ¬ S Y) (nl : ¬ S lb) : w'.cell? ⟨Y, 0, none⟩ = some v0 ∧ w'.cell? ⟨Y, 1, none⟩ = some v1 ∧ w'.cell? ⟨lb, o1, none⟩ = some v3 ∧ w'.cell? ⟨lb, o2, none⟩ = some v4 :=
  ⟨(ho.cell h1 nx).trans x0, (ho.cell h1 nx).trans x1, (ho.cell h2 nl).trans c1, (ho.cell h2 nl).trans c2⟩
end

theorem kinds (k : Int) : (k % 4 == 0) = true ∨ ((k % 4 == 0) = false ∧ (k % 4 == 1) = true) ∨ ((k % 4 == 0) = false ∧ (k % 4 == 1) = false ∧ (k % 4 == 2) = true) ∨
    ((k % 4 == 0) = false ∧ (k % 4 == 1) = false ∧ (k % 4 == 2) = false) := by
  simp only [beq_iff_eq, beq_eq_false_iff_ne]
  omega

set_option maxRecDepth 100000 in
set_option maxHeartbeats 20000000 in
theorem plays_walk {IsT : TRel} (F : Face IsT) (hwk : ∀ w, Calls Try.prog 6 #[] w fun e w' => e = .returned (.bool true) ∧ Below w.heap.size w w')
    (mo : Int) (h0 : -9223372036854775808 ≤ mo) (h1 : mo ≤ 9223372036854775807) (v : Value) (n : Nat) (E : Nat → Nat → Value) (w : World) (hrow : Row w v n 3 E)
    (hE : ∀ i, i < n → ∃ (k who t : Int), E i 0 = .int .u8 k ∧ 0 ≤ k ∧ k ≤ 255 ∧ E i 1 = .int .i64 who ∧ i64 who ∧ E i 2 = .int .i64 t ∧ i64 t) :
    Calls Try.prog 3 #[.int .i64 mo, v] w fun e w' => e = .returned (.bool true) ∧ Below w.heap.size w w' := by
  obtain ⟨a, cap, rfl, hc1, hc2, hc3⟩ := hrow
  unfold maxLen at hc2
  by_cases hn : n ≤ 80
  · by_cases hm : 1 ≤ mo ∧ mo ≤ 4096
    · obtain ⟨hm0, hm1⟩ := hm
      go_enter Try.func3, Try.ntmps3
      go_wp2_with fail
      refine (F.new_some mo w hm0 hm1).mono ?_
      rintro e w1 ⟨tb, bs, rfl, T1, hb1, hn1⟩
      have P1 : Hid (Play IsT w (w1.alloc (.cells #[.slice none 0 0, .int .i64 mo] 30)) w1.heap.size tb mo [] none 0 bs) :=
        Lib.hid ⟨F.below T1 ((Below.refl _ _).alloc (Nat.le_refl _) _), fun k hk => ⟨hn1 k hk, Nat.ne_of_lt (F.blocks T1 k hk)⟩, at_new _ _, ⟨rfl, Nat.le_refl _, by unfold maxLen; omega, fun _ => rfl, fun i hi => absurd hi (by simp)⟩, (fun b o h => nomatch h), hb1.alloc hb1.size _, hb1.size⟩
      clear T1 hb1 hn1
      go_wp2_with fail
      generalize w1.alloc (.cells #[.slice none 0 0, .int .i64 mo] 30) = w2 at P1 ⊢
      generalize w1.heap.size = X at *
      go_loopw [8] (fun z wr => Round IsT w wr X tb mo n z) (fun z _ => n - (intOf z).toNat)
      case atStart => exact ⟨0, [], none, 0, bs, Nat.zero_le _, rfl, P1.out⟩
      case round =>
        clear P1
        obtain ⟨i, L, p, c, bs, hi, rfl, hP⟩ := hrel
        have HP := Lib.hid hP; clear hP
        by_cases hlt : i < n
        · rcases hc3 with hz | ⟨lb, off, rfl, hb, hcells⟩
          · omega
          · obtain ⟨k, who, t, e0, k0, k1, e1, hid, e2, ht⟩ := hE i hlt
            have c0 : wr.cell? ⟨lb, off + i * 3, none⟩ = some (.int .u8 k) := by
              rw [HP.out.low.cell hb, ← e0]; exact hcells i 0 hlt (by omega)
            have c1 : wr.cell? ⟨lb, off + i * 3 + 1, none⟩ = some (.int .i64 who) := by
              rw [HP.out.low.cell hb, ← e1]; exact hcells i 1 hlt (by omega)
            have c2 : wr.cell? ⟨lb, off + i * 3 + 2, none⟩ = some (.int .i64 t) := by
              rw [HP.out.low.cell hb, ← e2]; exact hcells i 2 hlt (by omega)
            clear hcells e0 e1 e2
            have HI1 := Lib.hid hid
            have HI2 := Lib.hid ht
            clear hid ht
            have i0 : (0 : Int) ≤ (i : Int) := by omega
            have i1 : (i : Int) < (n : Int) := by omega
            obtain ⟨x0, x1⟩ := row2 HP.out.box
            have xlt := at_lt HP.out.box
            have lbl : lb < wr.heap.size := Nat.lt_of_lt_of_le hb HP.out.low.size
            have hpl : Hid (∀ b o, p = some ⟨b, o, none⟩ → b < wr.heap.size) := Lib.hid fun b o e => (HP.out.off b o e).2.2
            go_upto_block 2 with fail
            go_cut [9] (fun s9 wx => Next IsT w wx X tb mo s9)
            case first =>
              rcases kinds k with b0 | ⟨b0, b1⟩ | ⟨b0, b1, b2⟩ | ⟨b0, b1, b2⟩
              · as_aux_lemma =>
                  obtain ⟨L2, hL2⟩ : ∃ x, x = setL L mo who t := ⟨_, rfl⟩
                  obtain ⟨N, hN⟩ : ∃ x, x = setC L mo who t := ⟨_, rfl⟩
                  have HC : Hid (∀ W, Below wr.heap.size wr W → Calls Try.prog 8 #[.agg #[.slice p L.length c, .int .i64 mo], .int .i64 who, .int .i64 t] W fun e w' => (∃ p' c', e = .returned (.tuple #[.agg #[.slice p' L2.length c', .int .i64 mo], .int .i64 N]) ∧ Es w' (.slice p' L2.length c') L2 p' c' ∧ Loc W w' p p') ∧ Below W.heap.size W w') :=
                    Lib.hid fun W hW => by
                      rw [hL2, hN]
                      refine (set_ref L p c _ mo who t W (HP.out.es.kept hW) (by have := (F.fits HP.out.own).1; omega)).mono ?_
                      rintro e w' ⟨⟨v', p', c', rfl, E', l'⟩, hb'⟩
                      obtain rfl := E'.val
                      exact ⟨⟨p', c', rfl, E', l'⟩, hb'⟩
                  have HD : Hid (∀ W, IsT W bs tb mo L → Calls Try.prog 9 #[.pointer (some ⟨tb, 0, none⟩), .int .i64 who, .int .i64 t] W fun e w' => e = .returned (.int .i64 N) ∧ Does IsT W bs w' tb mo L2) :=
                    Lib.hid fun W hW => F.set_ who t hW HI1.out HI2.out hN.symm hL2.symm
                  clear hL2 hN
                  go_upto_region 16 with fail
                  go_cut [10, 11] (fun sy sv wx => AtMid wr wx mo p L2 (.int .i64 N) sy sv)
                  case first =>
                    go_region_held3 (fun w' => X < w'.heap.size ∧ lb < w'.heap.size ∧ w'.cell? ⟨X, 0, none⟩ = some (.slice p L.length c) ∧ w'.cell? ⟨X, 1, none⟩ = some (.int .i64 mo) ∧ w'.cell? ⟨lb, off + i * 3 + 1, none⟩ = some (.int .i64 who) ∧ w'.cell? ⟨lb, off + i * 3 + 2, none⟩ = some (.int .i64 t))
                      (first
                        | exact ⟨xlt, lbl, x0, x1, c1, c2⟩
                        | exact held_two xlt lbl x0 x1 c1 c2 (fun _ => False) ((Out.refl _ wr).drew.alloc _) id id
                        | exact Hq.out
                        | exact held_two Hq.out.1 Hq.out.2.1 Hq.out.2.2.1 Hq.out.2.2.2.1 Hq.out.2.2.2.2.1 Hq.out.2.2.2.2.2 (fun _ => False) ((Out.refl _ w5).alloc _) id id
                        | exact held_two Hq.out.1 Hq.out.2.1 Hq.out.2.2.1 Hq.out.2.2.2.1 Hq.out.2.2.2.2.1 Hq.out.2.2.2.2.2 (fun k => k = wr.heap.size) (out_two _ _ _ _) (Nat.ne_of_lt xlt) (Nat.ne_of_lt lbl))
                      (first
                        | (go_at_call 8; refine (HC.out _ (by first | exact (Below.refl _ wr).drew | exact ((Below.refl _ wr).drew).alloc (Nat.le_refl _) _)).mono ?_; rintro e w5 ⟨⟨p5, c5, rfl, E5, l5⟩, hb5⟩; have Hq := Lib.hid (held_two (And.left (by assumption)) (And.left (And.right (by assumption))) (And.left (And.right (And.right (by assumption)))) (And.left (And.right (And.right (And.right (by assumption))))) (And.left (And.right (And.right (And.right (And.right (by assumption)))))) (And.right (And.right (And.right (And.right (And.right (by assumption)))))) (fun _ => False) (Out.ofNew hb5) id id); (try (have hn : w5.heap[wr.heap.size]? = some (.cells #[.slice none 0 0, .int .i64 0] 30 (0, 0)) := (hb5.block wr.heap.size (by simp)).trans (at_newk wr.drew _ rfl); obtain ⟨n0, n1⟩ := row2 hn; have f0 := at_frozen hn 0; have f1 := at_frozen hn 1; clear hn))))
                    all_goals
                      go_wp2_with fail
                      go_meet
                      first
                        | exact ⟨_, _, _, rfl, rfl, mid_a hpl.out hb5 E5 l5⟩
                        | exact ⟨_, _, _, rfl, rfl, mid_b hpl.out hb5 E5 l5⟩
                  case rest =>
                    obtain ⟨Y, p2, cc, rfl, rfl, hM⟩ := hcut
                    obtain ⟨y0, y1⟩ := row2 hM.box
                    have ylt := at_lt hM.box
                    have hsz := hM.low.size
                    have hnw := hM.new
                    have hYX : Y ≠ X := by omega
                    have xlt2 : X < wc.heap.size := by omega
                    have lbl2 : lb < wc.heap.size := by omega
                    have d1 : wc.cell? ⟨lb, off + i * 3 + 1, none⟩ = some (.int .i64 who) := by rw [hM.low.cell lbl]; exact c1
                    have d2 : wc.cell? ⟨lb, off + i * 3 + 2, none⟩ = some (.int .i64 t) := by rw [hM.low.cell lbl]; exact c2
                    have lnX : lb ≠ X := fun e => by have := HP.out.hX; omega
                    have lnG : ¬ bs lb := fun h => by have := (HP.out.bsw lb h).1; omega
                    have lnY : ¬ bs Y := fun h => by have := F.blocks HP.out.own Y h; omega
                    have lnB : ¬ bs X := fun h => (HP.out.bsw X h).2 rfl
                    have HT := Lib.hid (F.below HP.out.own hM.low)
                    have HX6 := Lib.hid ((hM.low.block X xlt).trans HP.out.box)
                    have HM := Lib.hid hM; clear hM
                    clear x0 x1
                    go_wp2_with fail
                    go_region_held3 (fun w' => w'.cell? ⟨Y, 0, none⟩ = some (.slice p2 L2.length cc) ∧ w'.cell? ⟨Y, 1, none⟩ = some (.int .i64 mo) ∧ w'.cell? ⟨lb, off + i * 3 + 1, none⟩ = some (.int .i64 who) ∧ w'.cell? ⟨lb, off + i * 3 + 2, none⟩ = some (.int .i64 t))
                      (first
                        | exact ⟨y0, y1, d1, d2⟩
                        | exact Hq.out
                        | exact held_y (Nat.lt_of_lt_of_le ylt o6.size) (Nat.lt_of_lt_of_le lbl2 o6.size) Hq.out.1 Hq.out.2.1 Hq.out.2.2.1 Hq.out.2.2.2 (fun k => k = X) (out_two _ _ _ _) hYX lnX)
                      (first
                        | (go_at_call 9; refine (HD.out _ (by exact F.below HT.out ⟨rfl, rfl, rfl, Nat.le_refl _, fun _ _ => rfl⟩)).mono ?_; rintro e w6 ⟨rfl, bs6, t6, o6, m6⟩; have Hq := Lib.hid (held_y ylt lbl2 y0 y1 d1 d2 bs o6.ofDrew lnY lnG); have hbx := (o6.ofDrew.block X xlt2 lnB).trans HX6.out; obtain ⟨x0, x1⟩ := row2 hbx; have f0 := at_frozen hbx 0; have f1 := at_frozen hbx 1; clear hbx))
                    all_goals
                      go_wp2_with fail
                      go_meet
                      obtain ⟨bs', P'⟩ := play_next F HP.out HM.out ⟨bs6, t6, o6.ofDrew, m6⟩
                      exact ⟨L2, _, _, bs', rfl, P'⟩
              · as_aux_lemma =>
                  obtain ⟨L2, hL2⟩ : ∃ x, x = setL L mo who t := ⟨_, rfl⟩
                  obtain ⟨N, hN⟩ : ∃ x, x = setC L mo who t := ⟨_, rfl⟩
                  have HC : Hid (∀ W, Below wr.heap.size wr W → Calls Try.prog 8 #[.agg #[.slice p L.length c, .int .i64 mo], .int .i64 who, .int .i64 t] W fun e w' => (∃ p' c', e = .returned (.tuple #[.agg #[.slice p' L2.length c', .int .i64 mo], .int .i64 N]) ∧ Es w' (.slice p' L2.length c') L2 p' c' ∧ Loc W w' p p') ∧ Below W.heap.size W w') :=
                    Lib.hid fun W hW => by
                      rw [hL2, hN]
                      refine (set_ref L p c _ mo who t W (HP.out.es.kept hW) (by have := (F.fits HP.out.own).1; omega)).mono ?_
                      rintro e w' ⟨⟨v', p', c', rfl, E', l'⟩, hb'⟩
                      obtain rfl := E'.val
                      exact ⟨⟨p', c', rfl, E', l'⟩, hb'⟩
                  have HD : Hid (∀ W, IsT W bs tb mo L → Calls Try.prog 9 #[.pointer (some ⟨tb, 0, none⟩), .int .i64 who, .int .i64 t] W fun e w' => e = .returned (.int .i64 N) ∧ Does IsT W bs w' tb mo L2) :=
                    Lib.hid fun W hW => F.set_ who t hW HI1.out HI2.out hN.symm hL2.symm
                  clear hL2 hN
                  go_upto_region 16 with fail
                  go_cut [10, 11] (fun sy sv wx => AtMid wr wx mo p L2 (.int .i64 N) sy sv)
                  case first =>
                    go_region_held3 (fun w' => X < w'.heap.size ∧ lb < w'.heap.size ∧ w'.cell? ⟨X, 0, none⟩ = some (.slice p L.length c) ∧ w'.cell? ⟨X, 1, none⟩ = some (.int .i64 mo) ∧ w'.cell? ⟨lb, off + i * 3 + 1, none⟩ = some (.int .i64 who) ∧ w'.cell? ⟨lb, off + i * 3 + 2, none⟩ = some (.int .i64 t))
                      (first
                        | exact ⟨xlt, lbl, x0, x1, c1, c2⟩
                        | exact held_two xlt lbl x0 x1 c1 c2 (fun _ => False) ((Out.refl _ wr).drew.alloc _) id id
                        | exact Hq.out
                        | exact held_two Hq.out.1 Hq.out.2.1 Hq.out.2.2.1 Hq.out.2.2.2.1 Hq.out.2.2.2.2.1 Hq.out.2.2.2.2.2 (fun _ => False) ((Out.refl _ w5).alloc _) id id
                        | exact held_two Hq.out.1 Hq.out.2.1 Hq.out.2.2.1 Hq.out.2.2.2.1 Hq.out.2.2.2.2.1 Hq.out.2.2.2.2.2 (fun k => k = wr.heap.size) (out_two _ _ _ _) (Nat.ne_of_lt xlt) (Nat.ne_of_lt lbl))
                      (first
                        | (go_at_call 8; refine (HC.out _ (by first | exact (Below.refl _ wr).drew | exact ((Below.refl _ wr).drew).alloc (Nat.le_refl _) _)).mono ?_; rintro e w5 ⟨⟨p5, c5, rfl, E5, l5⟩, hb5⟩; have Hq := Lib.hid (held_two (And.left (by assumption)) (And.left (And.right (by assumption))) (And.left (And.right (And.right (by assumption)))) (And.left (And.right (And.right (And.right (by assumption))))) (And.left (And.right (And.right (And.right (And.right (by assumption)))))) (And.right (And.right (And.right (And.right (And.right (by assumption)))))) (fun _ => False) (Out.ofNew hb5) id id); (try (have hn : w5.heap[wr.heap.size]? = some (.cells #[.slice none 0 0, .int .i64 0] 30 (0, 0)) := (hb5.block wr.heap.size (by simp)).trans (at_newk wr.drew _ rfl); obtain ⟨n0, n1⟩ := row2 hn; have f0 := at_frozen hn 0; have f1 := at_frozen hn 1; clear hn))))
                    all_goals
                      go_wp2_with fail
                      go_meet
                      first
                        | exact ⟨_, _, _, rfl, rfl, mid_a hpl.out hb5 E5 l5⟩
                        | exact ⟨_, _, _, rfl, rfl, mid_b hpl.out hb5 E5 l5⟩
                  case rest =>
                    obtain ⟨Y, p2, cc, rfl, rfl, hM⟩ := hcut
                    obtain ⟨y0, y1⟩ := row2 hM.box
                    have ylt := at_lt hM.box
                    have hsz := hM.low.size
                    have hnw := hM.new
                    have hYX : Y ≠ X := by omega
                    have xlt2 : X < wc.heap.size := by omega
                    have lbl2 : lb < wc.heap.size := by omega
                    have d1 : wc.cell? ⟨lb, off + i * 3 + 1, none⟩ = some (.int .i64 who) := by rw [hM.low.cell lbl]; exact c1
                    have d2 : wc.cell? ⟨lb, off + i * 3 + 2, none⟩ = some (.int .i64 t) := by rw [hM.low.cell lbl]; exact c2
                    have lnX : lb ≠ X := fun e => by have := HP.out.hX; omega
                    have lnG : ¬ bs lb := fun h => by have := (HP.out.bsw lb h).1; omega
                    have lnY : ¬ bs Y := fun h => by have := F.blocks HP.out.own Y h; omega
                    have lnB : ¬ bs X := fun h => (HP.out.bsw X h).2 rfl
                    have HT := Lib.hid (F.below HP.out.own hM.low)
                    have HX6 := Lib.hid ((hM.low.block X xlt).trans HP.out.box)
                    have HM := Lib.hid hM; clear hM
                    clear x0 x1
                    go_wp2_with fail
                    go_region_held3 (fun w' => w'.cell? ⟨Y, 0, none⟩ = some (.slice p2 L2.length cc) ∧ w'.cell? ⟨Y, 1, none⟩ = some (.int .i64 mo) ∧ w'.cell? ⟨lb, off + i * 3 + 1, none⟩ = some (.int .i64 who) ∧ w'.cell? ⟨lb, off + i * 3 + 2, none⟩ = some (.int .i64 t))
                      (first
                        | exact ⟨y0, y1, d1, d2⟩
                        | exact Hq.out
                        | exact held_y (Nat.lt_of_lt_of_le ylt o6.size) (Nat.lt_of_lt_of_le lbl2 o6.size) Hq.out.1 Hq.out.2.1 Hq.out.2.2.1 Hq.out.2.2.2 (fun k => k = X) (out_two _ _ _ _) hYX lnX)
                      (first
                        | (go_at_call 9; refine (HD.out _ (by exact F.below HT.out ⟨rfl, rfl, rfl, Nat.le_refl _, fun _ _ => rfl⟩)).mono ?_; rintro e w6 ⟨rfl, bs6, t6, o6, m6⟩; have Hq := Lib.hid (held_y ylt lbl2 y0 y1 d1 d2 bs o6.ofDrew lnY lnG); have hbx := (o6.ofDrew.block X xlt2 lnB).trans HX6.out; obtain ⟨x0, x1⟩ := row2 hbx; have f0 := at_frozen hbx 0; have f1 := at_frozen hbx 1; clear hbx))
                    all_goals
                      go_wp2_with fail
                      go_meet
                      obtain ⟨bs', P'⟩ := play_next F HP.out HM.out ⟨bs6, t6, o6.ofDrew, m6⟩
                      exact ⟨L2, _, _, bs', rfl, P'⟩
              · as_aux_lemma =>
                  obtain ⟨L2, hL2⟩ : ∃ x, x = delL L who := ⟨_, rfl⟩
                  obtain ⟨N, hN⟩ : ∃ x, x = isIn L who := ⟨_, rfl⟩
                  have HC : Hid (∀ W, Below wr.heap.size wr W → Calls Try.prog 10 #[.agg #[.slice p L.length c, .int .i64 mo], .int .i64 who] W fun e w' => (∃ p' c', e = .returned (.tuple #[.agg #[.slice p' L2.length c', .int .i64 mo], .bool N]) ∧ Es w' (.slice p' L2.length c') L2 p' c' ∧ Loc W w' p p') ∧ Below W.heap.size W w') :=
                    Lib.hid fun W hW => by
                      rw [hL2, hN]
                      refine (cancel_ref L p c _ mo who W (HP.out.es.kept hW) (by have := (F.fits HP.out.own).1; omega)).mono ?_
                      rintro e w' ⟨⟨v', rfl, O'⟩, hb'⟩
                      obtain ⟨p', c', E', l'⟩ := O'.es
                      obtain rfl := E'.val
                      exact ⟨⟨p', c', rfl, E', loc_new l'⟩, hb'⟩
                  have HD : Hid (∀ W, IsT W bs tb mo L → Calls Try.prog 11 #[.pointer (some ⟨tb, 0, none⟩), .int .i64 who] W fun e w' => e = .returned (.bool N) ∧ Does IsT W bs w' tb mo L2) :=
                    Lib.hid fun W hW => F.cancel who hW HI1.out hN.symm hL2.symm
                  clear hL2 hN
                  go_upto_region 19 with fail
                  go_cut [12, 13] (fun sy sv wx => AtMid wr wx mo p L2 (.bool N) sy sv)
                  case first =>
                    go_region_held3 (fun w' => X < w'.heap.size ∧ lb < w'.heap.size ∧ w'.cell? ⟨X, 0, none⟩ = some (.slice p L.length c) ∧ w'.cell? ⟨X, 1, none⟩ = some (.int .i64 mo) ∧ w'.cell? ⟨lb, off + i * 3 + 1, none⟩ = some (.int .i64 who) ∧ w'.cell? ⟨lb, off + i * 3 + 2, none⟩ = some (.int .i64 t))
                      (first
                        | exact ⟨xlt, lbl, x0, x1, c1, c2⟩
                        | exact held_two xlt lbl x0 x1 c1 c2 (fun _ => False) ((Out.refl _ wr).drew.alloc _) id id
                        | exact Hq.out
                        | exact held_two Hq.out.1 Hq.out.2.1 Hq.out.2.2.1 Hq.out.2.2.2.1 Hq.out.2.2.2.2.1 Hq.out.2.2.2.2.2 (fun _ => False) ((Out.refl _ w5).alloc _) id id
                        | exact held_two Hq.out.1 Hq.out.2.1 Hq.out.2.2.1 Hq.out.2.2.2.1 Hq.out.2.2.2.2.1 Hq.out.2.2.2.2.2 (fun k => k = wr.heap.size) (out_two _ _ _ _) (Nat.ne_of_lt xlt) (Nat.ne_of_lt lbl))
                      (first
                        | (go_at_call 10; refine (HC.out _ (by first | exact (Below.refl _ wr).drew | exact ((Below.refl _ wr).drew).alloc (Nat.le_refl _) _)).mono ?_; rintro e w5 ⟨⟨p5, c5, rfl, E5, l5⟩, hb5⟩; have Hq := Lib.hid (held_two (And.left (by assumption)) (And.left (And.right (by assumption))) (And.left (And.right (And.right (by assumption)))) (And.left (And.right (And.right (And.right (by assumption))))) (And.left (And.right (And.right (And.right (And.right (by assumption)))))) (And.right (And.right (And.right (And.right (And.right (by assumption)))))) (fun _ => False) (Out.ofNew hb5) id id); (try (have hn : w5.heap[wr.heap.size]? = some (.cells #[.slice none 0 0, .int .i64 0] 30 (0, 0)) := (hb5.block wr.heap.size (by simp)).trans (at_newk wr.drew _ rfl); obtain ⟨n0, n1⟩ := row2 hn; have f0 := at_frozen hn 0; have f1 := at_frozen hn 1; clear hn))))
                    all_goals
                      go_wp2_with fail
                      go_meet
                      first
                        | exact ⟨_, _, _, rfl, rfl, mid_a hpl.out hb5 E5 l5⟩
                        | exact ⟨_, _, _, rfl, rfl, mid_b hpl.out hb5 E5 l5⟩
                  case rest =>
                    obtain ⟨Y, p2, cc, rfl, rfl, hM⟩ := hcut
                    obtain ⟨y0, y1⟩ := row2 hM.box
                    have ylt := at_lt hM.box
                    have hsz := hM.low.size
                    have hnw := hM.new
                    have hYX : Y ≠ X := by omega
                    have xlt2 : X < wc.heap.size := by omega
                    have lbl2 : lb < wc.heap.size := by omega
                    have d1 : wc.cell? ⟨lb, off + i * 3 + 1, none⟩ = some (.int .i64 who) := by rw [hM.low.cell lbl]; exact c1
                    have d2 : wc.cell? ⟨lb, off + i * 3 + 2, none⟩ = some (.int .i64 t) := by rw [hM.low.cell lbl]; exact c2
                    have lnX : lb ≠ X := fun e => by have := HP.out.hX; omega
                    have lnG : ¬ bs lb := fun h => by have := (HP.out.bsw lb h).1; omega
                    have lnY : ¬ bs Y := fun h => by have := F.blocks HP.out.own Y h; omega
                    have lnB : ¬ bs X := fun h => (HP.out.bsw X h).2 rfl
                    have HT := Lib.hid (F.below HP.out.own hM.low)
                    have HX6 := Lib.hid ((hM.low.block X xlt).trans HP.out.box)
                    have HM := Lib.hid hM; clear hM
                    clear x0 x1
                    go_wp2_with fail
                    go_region_held3 (fun w' => w'.cell? ⟨Y, 0, none⟩ = some (.slice p2 L2.length cc) ∧ w'.cell? ⟨Y, 1, none⟩ = some (.int .i64 mo) ∧ w'.cell? ⟨lb, off + i * 3 + 1, none⟩ = some (.int .i64 who) ∧ w'.cell? ⟨lb, off + i * 3 + 2, none⟩ = some (.int .i64 t))
                      (first
                        | exact ⟨y0, y1, d1, d2⟩
                        | exact Hq.out
                        | exact held_y (Nat.lt_of_lt_of_le ylt o6.size) (Nat.lt_of_lt_of_le lbl2 o6.size) Hq.out.1 Hq.out.2.1 Hq.out.2.2.1 Hq.out.2.2.2 (fun k => k = X) (out_two _ _ _ _) hYX lnX)
                      (first
                        | (go_at_call 11; refine (HD.out _ (by exact F.below HT.out ⟨rfl, rfl, rfl, Nat.le_refl _, fun _ _ => rfl⟩)).mono ?_; rintro e w6 ⟨rfl, bs6, t6, o6, m6⟩; have Hq := Lib.hid (held_y ylt lbl2 y0 y1 d1 d2 bs o6.ofDrew lnY lnG); have hbx := (o6.ofDrew.block X xlt2 lnB).trans HX6.out; obtain ⟨x0, x1⟩ := row2 hbx; have f0 := at_frozen hbx 0; have f1 := at_frozen hbx 1; clear hbx))
                    all_goals
                      go_wp2_with fail
                      go_meet
                      obtain ⟨bs', P'⟩ := play_next F HP.out HM.out ⟨bs6, t6, o6.ofDrew, m6⟩
                      exact ⟨L2, _, _, bs', rfl, P'⟩
              · as_aux_lemma =>
                  obtain ⟨L2, hL2⟩ : ∃ x, x = rest L t := ⟨_, rfl⟩
                  obtain ⟨D, hD⟩ : ∃ x, x = due L t := ⟨_, rfl⟩
                  have HC : Hid (∀ W, Below wr.heap.size wr W → Calls Try.prog 12 #[.agg #[.slice p L.length c, .int .i64 mo], .int .i64 t] W fun e w' => (∃ p' c' q d, e = .returned (.tuple #[.agg #[.slice p' L2.length c', .int .i64 mo], .slice q D.length d]) ∧ Es w' (.slice p' L2.length c') L2 p' c' ∧ Loc W w' p p' ∧ Si w' (D.map (·.1)) q d ∧ ∀ g, q = some ⟨g, 0, none⟩ → W.heap.size ≤ g ∧ g < w'.heap.size) ∧ Below W.heap.size W w') :=
                    Lib.hid fun W hW => by
                      rw [hL2, hD]
                      refine (due_ref L p c _ mo t W (HP.out.es.kept hW) (by have := (F.fits HP.out.own).1; omega)).mono ?_
                      rintro e w' ⟨⟨v', p', c', u, rfl, E', l', o'⟩, hb'⟩
                      obtain rfl := E'.val
                      obtain ⟨q, d, rfl, su, gu⟩ := own_shape o'
                      exact ⟨⟨p', c', q, d, rfl, E', l', su, gu⟩, hb'⟩
                  have HD : Hid (∀ W, IsT W bs tb mo L → Calls Try.prog 14 #[.pointer (some ⟨tb, 0, none⟩), .int .i64 t] W fun e w' => (∃ q d, e = .returned (.slice q D.length d) ∧ Si w' (D.map (·.1)) q d) ∧ Does IsT W bs w' tb mo L2) :=
                    Lib.hid fun W hW => by
                      refine (F.due_ t hW HI2.out hD.symm hL2.symm).mono ?_
                      rintro e w' ⟨q, d, rfl, o', h'⟩
                      exact ⟨⟨q, d, rfl, owns_si o' (by rw [List.length_map])⟩, h'⟩
                  have HS : Hid (∀ (W : World) (pa pb : Option Addr) (ca cb : Nat), Si W (D.map (·.1)) pa ca → Si W (D.map (·.1)) pb cb → Calls Try.prog 13 #[.slice pa D.length ca, .slice pb D.length cb] W fun e w' => e = .returned (.bool true) ∧ Below W.heap.size W w') :=
                    Lib.hid fun W pa pb ca cb h1 h2 => by
                      have := same_calls (D.map (·.1)) (D.map (·.1)) pa pb ca cb W h1 h2
                      rw [List.length_map] at this
                      simpa using this
                  clear hL2 hD
                  go_upto_region 12 with fail
                  go_cut [14, 15] (fun sy sv wx => AtDue wr wx mo p L2 D sy sv)
                  case first =>
                    go_region_held3 (fun w' => X < w'.heap.size ∧ lb < w'.heap.size ∧ w'.cell? ⟨X, 0, none⟩ = some (.slice p L.length c) ∧ w'.cell? ⟨X, 1, none⟩ = some (.int .i64 mo) ∧ w'.cell? ⟨lb, off + i * 3 + 1, none⟩ = some (.int .i64 who) ∧ w'.cell? ⟨lb, off + i * 3 + 2, none⟩ = some (.int .i64 t))
                      (first
                        | exact ⟨xlt, lbl, x0, x1, c1, c2⟩
                        | exact held_two xlt lbl x0 x1 c1 c2 (fun _ => False) ((Out.refl _ wr).drew.alloc _) id id
                        | exact Hq.out
                        | exact held_two Hq.out.1 Hq.out.2.1 Hq.out.2.2.1 Hq.out.2.2.2.1 Hq.out.2.2.2.2.1 Hq.out.2.2.2.2.2 (fun _ => False) ((Out.refl _ w5).alloc _) id id
                        | exact held_two Hq.out.1 Hq.out.2.1 Hq.out.2.2.1 Hq.out.2.2.2.1 Hq.out.2.2.2.2.1 Hq.out.2.2.2.2.2 (fun k => k = wr.heap.size) (out_two _ _ _ _) (Nat.ne_of_lt xlt) (Nat.ne_of_lt lbl))
                      (first
                        | (go_at_call 12; refine (HC.out _ (by first | exact (Below.refl _ wr).drew | exact ((Below.refl _ wr).drew).alloc (Nat.le_refl _) _)).mono ?_; rintro e w5 ⟨⟨p5, c5, q5, d5, rfl, E5, l5, s5, g5⟩, hb5⟩; have Hq := Lib.hid (held_two (And.left (by assumption)) (And.left (And.right (by assumption))) (And.left (And.right (And.right (by assumption)))) (And.left (And.right (And.right (And.right (by assumption))))) (And.left (And.right (And.right (And.right (And.right (by assumption)))))) (And.right (And.right (And.right (And.right (And.right (by assumption)))))) (fun _ => False) (Out.ofNew hb5) id id); (try (have hn : w5.heap[wr.heap.size]? = some (.cells #[.slice none 0 0, .int .i64 0] 30 (0, 0)) := (hb5.block wr.heap.size (by simp)).trans (at_newk wr.drew _ rfl); obtain ⟨n0, n1⟩ := row2 hn; have f0 := at_frozen hn 0; have f1 := at_frozen hn 1; clear hn))))
                    all_goals
                      go_wp2_with fail
                      go_meet
                      first
                        | exact ⟨_, _, _, _, _, rfl, rfl, mid_a hpl.out hb5 E5 l5, due_a s5 _, fun g e => (g5 g e).1⟩
                        | exact ⟨_, _, _, _, _, rfl, rfl, mid_b hpl.out hb5 E5 l5, due_b s5 g5 _ _, fun g e => by have := (g5 g e).1; simp at this; omega⟩
                  case rest =>
                    obtain ⟨Y, p2, cc, qu, du, rfl, rfl, hM, hSu, hgu⟩ := hcut
                    obtain ⟨y0, y1⟩ := row2 hM.box
                    have ylt := at_lt hM.box
                    have hsz := hM.low.size
                    have hnw := hM.new
                    have hYX : Y ≠ X := by omega
                    have xlt2 : X < wc.heap.size := by omega
                    have lbl2 : lb < wc.heap.size := by omega
                    have d1 : wc.cell? ⟨lb, off + i * 3 + 1, none⟩ = some (.int .i64 who) := by rw [hM.low.cell lbl]; exact c1
                    have d2 : wc.cell? ⟨lb, off + i * 3 + 2, none⟩ = some (.int .i64 t) := by rw [hM.low.cell lbl]; exact c2
                    have lnX : lb ≠ X := fun e => by have := HP.out.hX; omega
                    have lnG : ¬ bs lb := fun h => by have := (HP.out.bsw lb h).1; omega
                    have lnY : ¬ bs Y := fun h => by have := F.blocks HP.out.own Y h; omega
                    have lnB : ¬ bs X := fun h => (HP.out.bsw X h).2 rfl
                    have HSu := Lib.hid hSu; clear hSu
                    have HGu : Hid (∀ g, qu = some ⟨g, 0, none⟩ → ¬ bs g) := Lib.hid fun g e h => by have := F.blocks HP.out.own g h; have := hgu g e; omega
                    have HT := Lib.hid (F.below HP.out.own hM.low)
                    have HX6 := Lib.hid ((hM.low.block X xlt).trans HP.out.box)
                    have HM := Lib.hid hM; clear hM hgu
                    clear x0 x1
                    go_wp2_with fail
                    go_region_held3 (fun w' => w'.cell? ⟨Y, 0, none⟩ = some (.slice p2 L2.length cc) ∧ w'.cell? ⟨Y, 1, none⟩ = some (.int .i64 mo) ∧ w'.cell? ⟨lb, off + i * 3 + 1, none⟩ = some (.int .i64 who) ∧ w'.cell? ⟨lb, off + i * 3 + 2, none⟩ = some (.int .i64 t))
                      (first
                        | exact ⟨y0, y1, d1, d2⟩
                        | exact Hq.out
                        | exact Hr.out
                        | exact held_y (Nat.lt_of_lt_of_le (Nat.lt_of_lt_of_le ylt o6.size) hb9.size) (Nat.lt_of_lt_of_le (Nat.lt_of_lt_of_le lbl2 o6.size) hb9.size) Hr.out.1 Hr.out.2.1 Hr.out.2.2.1 Hr.out.2.2.2 (fun k => k = X) (out_two _ _ _ _) hYX lnX)
                      (first
                        | (go_at_call 14; refine (HD.out _ (by exact F.below HT.out ⟨rfl, rfl, rfl, Nat.le_refl _, fun _ _ => rfl⟩)).mono ?_; rintro e w6 ⟨⟨qq, dq, rfl, sq⟩, bs6, t6, o6, m6⟩; have Hq := Lib.hid (held_y ylt lbl2 y0 y1 d1 d2 bs o6.ofDrew lnY lnG); have Sq := Lib.hid sq; clear sq; have Sr := Lib.hid (HSu.out.out o6.ofDrew HGu.out))
                        | (go_at_call 13; refine (HS.out _ _ _ _ _ Sq.out Sr.out).mono ?_; rintro e w9 ⟨rfl, hb9⟩; have Hr := Lib.hid (held_y (Nat.lt_of_lt_of_le ylt o6.size) (Nat.lt_of_lt_of_le lbl2 o6.size) Hq.out.1 Hq.out.2.1 Hq.out.2.2.1 Hq.out.2.2.2 (fun _ => False) (Out.ofNew hb9) id id); have hbx := (hb9.block X (Nat.lt_of_lt_of_le xlt2 o6.size)).trans ((o6.ofDrew.block X xlt2 lnB).trans HX6.out); obtain ⟨x0, x1⟩ := row2 hbx; have f0 := at_frozen hbx 0; have f1 := at_frozen hbx 1; clear hbx))
                    all_goals
                      go_wp2_with fail
                      go_meet
                      obtain ⟨bs', P'⟩ := play_next F HP.out HM.out (does_below F ⟨bs6, t6, o6.ofDrew, m6⟩ hb9)
                      exact ⟨L2, _, _, bs', rfl, P'⟩
            case rest =>
              obtain ⟨L2, p2, cc, bs2, rfl, hP2⟩ := hcut
              have d1 : wc.cell? ⟨lb, off + i * 3 + 1, none⟩ = some (.int .i64 who) := by rw [hP2.low.cell hb, ← HP.out.low.cell hb]; exact c1
              have lbw : lb < wc.heap.size := Nat.lt_of_lt_of_le hb hP2.low.size
              have HP2 := Lib.hid hP2; clear hP2
              clear c0 c1 c2 x0 x1 xlt lbl hpl HP
              cases L2 with
              | nil =>
                have hnx : Calls Try.prog 15 #[.pointer (some ⟨tb, 0, none⟩)] wc fun e w' => e = .returned (.tuple #[.int .i64 0, .int .i64 0, .bool false]) ∧ Below wc.heap.size wc w' := F.next HP2.out.own
                have HL : Hid (∀ W, IsT W bs2 tb mo [] → Calls Try.prog 18 #[.pointer (some ⟨tb, 0, none⟩)] W fun e w' => e = .returned (.int .i64 0) ∧ ∃ m, w' = W.drewN m) := Lib.hid fun W hW => F.len_ hW
                have HA : Hid (∀ W, Es W (.slice p2 ([] : List Ent).length cc) [] p2 cc → Calls Try.prog 17 #[.agg #[.slice p2 ([] : List Ent).length cc, .int .i64 mo], .int .i64 who] W fun e w' => e = .returned (.tuple #[.int .i64 (whenL [] who), .bool (isIn [] who)]) ∧ Below W.heap.size W w') := Lib.hid fun W hW => at_ref [] p2 cc _ mo who W hW
                go_wp2_with (first
                  | (go_at_call 15; refine hnx.mono ?_; rintro e w6 ⟨rfl, hb6⟩; have HP6 := Lib.hid (HP2.out.same F hb6); have d6 := (hb6.cell (p := ⟨lb, off + i * 3 + 1, none⟩) lbw).trans d1; have lb6 := Nat.lt_of_lt_of_le lbw hb6.size)
                  | (go_at_call 16; refine (F.at_ who HP6.out.own HI1.out).mono ?_; rintro e w7 ⟨rfl, hb7⟩; have HP7 := Lib.hid (HP6.out.same F hb7); have d7 := (hb7.cell (p := ⟨lb, off + i * 3 + 1, none⟩) lb6).trans d6; have lb7 := Nat.lt_of_lt_of_le lb6 hb7.size; obtain ⟨x0, x1⟩ := row2 HP7.out.box))
                have hE7 := Lib.hid (HP7.out.es)
                generalize whenL [] who = wa at *
                generalize isIn [] who = wi at *
                go_region_held3 (fun w' => w'.cell? ⟨X, 0, none⟩ = some (.slice p2 ([] : List Ent).length cc) ∧ w'.cell? ⟨X, 1, none⟩ = some (.int .i64 mo) ∧ w'.cell? ⟨lb, off + i * 3 + 1, none⟩ = some (.int .i64 who))
                  (first
                    | exact ⟨x0, x1, d7⟩
                    | exact Hq.out)
                  (first
                    | (go_at_call 17; refine (HA.out _ (by exact hE7.out.kept ⟨rfl, rfl, rfl, Nat.le_refl _, fun _ _ => rfl⟩)).mono ?_; rintro e w8 ⟨rfl, hb8⟩; have Hq := Lib.hid (held_at HP7.out.box lb7 d7 hb8)))
                all_goals
                  have HP8 := Lib.hid (HP7.out.same F (w' := w8) ⟨hb8.os, hb8.tape, hb8.output, hb8.size, hb8.block⟩)
                  obtain ⟨x0, x1⟩ := row2 HP8.out.box
                  clear Hq hb8
                  rw [List.length_nil] at x0
                  have q1 : (wa != wa) = false := by simp
                  have q2 : (wi != wi) = false := by simp
                  go_wp2_with fail
                  go_quiet ((go_at_call 18; refine Calls.quiet_of (HL.out _ (by exact F.below HP8.out.own ⟨rfl, rfl, rfl, Nat.le_refl _, fun _ _ => rfl⟩))))
                  go_wp2_with fail
                  go_roundw
                  case rel => exact ⟨i + 1, [], p2, cc, bs2, by omega, by go_num, HP8.out.same F ⟨rfl, rfl, rfl, Nat.le_refl _, fun _ _ => rfl⟩⟩
                  case measure => simp [intOf]; omega
              | cons e0 r0 =>
                obtain ⟨m, hm⟩ : ∃ m, m = (e0 :: r0).length := ⟨_, rfl⟩
                obtain ⟨z1, hz1⟩ : ∃ x, x = e0.1 := ⟨_, rfl⟩
                obtain ⟨z2, hz2⟩ : ∃ x, x = e0.2 := ⟨_, rfl⟩
                have hnx : Calls Try.prog 15 #[.pointer (some ⟨tb, 0, none⟩)] wc fun e w' => e = .returned (.tuple #[.int .i64 z1, .int .i64 z2, .bool true]) ∧ Below wc.heap.size wc w' := by rw [hz1, hz2]; exact F.next HP2.out.own
                have HL : Hid (∀ W, IsT W bs2 tb mo (e0 :: r0) → Calls Try.prog 18 #[.pointer (some ⟨tb, 0, none⟩)] W fun e w' => e = .returned (.int .i64 m) ∧ ∃ k, w' = W.drewN k) := Lib.hid fun W hW => by rw [hm]; exact F.len_ hW
                have HA : Hid (∀ W, Es W (.slice p2 (e0 :: r0).length cc) (e0 :: r0) p2 cc → Calls Try.prog 17 #[.agg #[.slice p2 m cc, .int .i64 mo], .int .i64 who] W fun e w' => e = .returned (.tuple #[.int .i64 (whenL (e0 :: r0) who), .bool (isIn (e0 :: r0) who)]) ∧ Below W.heap.size W w') := Lib.hid fun W hW => by rw [hm]; exact at_ref (e0 :: r0) p2 cc _ mo who W hW
                have q3 : (0 : Int) < (m : Int) := by rw [hm, List.length_cons]; omega
                have HM := Lib.hid hm
                have HZ1 := Lib.hid hz1
                have HZ2 := Lib.hid hz2
                clear hm hz1 hz2
                go_wp2_with (first
                  | (go_at_call 15; refine hnx.mono ?_; rintro e w6 ⟨rfl, hb6⟩; have HP6 := Lib.hid (HP2.out.same F hb6); have d6 := (hb6.cell (p := ⟨lb, off + i * 3 + 1, none⟩) lbw).trans d1; have lb6 := Nat.lt_of_lt_of_le lbw hb6.size)
                  | (go_at_call 16; refine (F.at_ who HP6.out.own HI1.out).mono ?_; rintro e w7 ⟨rfl, hb7⟩; have HP7 := Lib.hid (HP6.out.same F hb7); have d7 := (hb7.cell (p := ⟨lb, off + i * 3 + 1, none⟩) lb6).trans d6; have lb7 := Nat.lt_of_lt_of_le lb6 hb7.size; obtain ⟨x0, x1⟩ := row2 HP7.out.box; rw [← HM.out] at x0))
                have hE7 := Lib.hid (HP7.out.es)
                have hB7 : Hid (w7.heap[X]? = some (.cells #[.slice p2 m cc, .int .i64 mo] 30 (0, 0))) := Lib.hid (by rw [HM.out]; exact HP7.out.box)
                generalize whenL (e0 :: r0) who = wa at *
                generalize isIn (e0 :: r0) who = wi at *
                go_region_held3 (fun w' => w'.cell? ⟨X, 0, none⟩ = some (.slice p2 m cc) ∧ w'.cell? ⟨X, 1, none⟩ = some (.int .i64 mo) ∧ w'.cell? ⟨lb, off + i * 3 + 1, none⟩ = some (.int .i64 who))
                  (first
                    | exact ⟨x0, x1, d7⟩
                    | exact Hq.out)
                  (first
                    | (go_at_call 17; refine (HA.out _ (by exact hE7.out.kept ⟨rfl, rfl, rfl, Nat.le_refl _, fun _ _ => rfl⟩)).mono ?_; rintro e w8 ⟨rfl, hb8⟩; have Hq := Lib.hid (held_at hB7.out lb7 d7 hb8)))
                all_goals
                  have HP8 := Lib.hid (HP7.out.same F (w' := w8) ⟨hb8.os, hb8.tape, hb8.output, hb8.size, hb8.block⟩)
                  obtain ⟨x0, x1⟩ := row2 HP8.out.box
                  obtain ⟨bb, oo, rfl, g1, g2⟩ := HP8.out.es.cells 0 (by simp)
                  simp only [gt, List.getD_cons_zero, Nat.zero_mul, Nat.add_zero] at g1 g2
                  rw [← HM.out] at x0
                  rw [← HZ1.out] at g1
                  rw [← HZ2.out] at g2
                  clear Hq hb8
                  have q1 : (wa != wa) = false := by simp
                  have q2 : (wi != wi) = false := by simp
                  have q4 : decide ((0 : Int) < (m : Int)) = true := by simpa using q3
                  have q5 : ((m : Int) != (m : Int)) = false := by simp
                  have q8 : (!decide ((0 : Int) < (m : Int))) = false := by simpa using q3
                  have q9 : (true != decide ((0 : Int) < (m : Int))) = false := by simpa using q3
                  have q10 : decide (0 < m) = true := by simpa using q3
                  have q11 : (!decide (0 < m)) = false := by simpa using q3
                  have q12 : (true != decide (0 < m)) = false := by simpa using q3
                  have q6 : (z1 != z1) = false := by simp
                  have q7 : (z2 != z2) = false := by simp
                  go_wp2_with fail
                  go_quiet ((go_at_call 18; refine Calls.quiet_of (HL.out _ (by exact F.below HP8.out.own ⟨rfl, rfl, rfl, Nat.le_refl _, fun _ _ => rfl⟩))))
                  go_wp2_with fail
                  go_roundw
                  case rel => exact ⟨i + 1, e0 :: r0, some ⟨bb, oo, none⟩, cc, bs2, by omega, by go_num, HP8.out.same F ⟨rfl, rfl, rfl, Nat.le_refl _, fun _ _ => rfl⟩⟩
                  case measure => simp [intOf]; omega
        · go_wp2_with (go_at_call 6; refine (hwk _).mono ?_; rintro e w5 ⟨rfl, hb5⟩)
          go_ret
          exact ⟨rfl, HP.out.low.trans (hb5.mono HP.out.low.size)⟩
    · have hm2 : mo < 1 ∨ 4096 < mo := by omega
      rcases hm2 with hm2 | hm2
      · go_enter Try.func3, Try.ntmps3
        go_wp2_with (first | (go_at_call 7; refine (F.new_none _ _ (.inl hm2)).mono ?_; rintro e w4 ⟨rfl, hb4⟩) | (go_at_call 6; refine (hwk _).mono ?_; rintro e w5 ⟨rfl, hb5⟩))
        go_ret
        exact ⟨rfl, hb4.trans (hb5.mono hb4.size)⟩
      · have hm3 : ¬ mo < 1 := by omega
        go_enter Try.func3, Try.ntmps3
        go_wp2_with (first | (go_at_call 7; refine (F.new_none _ _ (.inr hm2)).mono ?_; rintro e w4 ⟨rfl, hb4⟩) | (go_at_call 6; refine (hwk _).mono ?_; rintro e w5 ⟨rfl, hb5⟩))
        go_ret
        exact ⟨rfl, hb4.trans (hb5.mono hb4.size)⟩
  · go_enter Try.func3, Try.ntmps3
    go_wp2_with (go_at_call 6; refine (hwk _).mono ?_; rintro e w5 ⟨rfl, hb5⟩)
    go_ret
    exact ⟨rfl, hb5⟩
end Go.Proofs.Ytmmgpifidlekaaa.Timer

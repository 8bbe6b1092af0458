/-
  Layer 4 (ring): the law of whatever is put, forced, taken and looked at, walked.
-/
import Derived.Test.YtgbelgmnenbmcaaRingSame
import Derived.Test.YtgbelgmnenbmcaaArgs
import Derived.Deep.DeepCutAuto
import Derived.Deep.CutBlock
namespace Go.Proofs.Ytgbelgmnenbmcaa.Ring
open Go.RowKit Go.Proofs.Ytgbelgmnenbmcaa.Own

/-- the ring and the document's own, side by side: w the world at first, X the document's block -/
structure Play (w wr : World) (X b most g : Nat) (all : List UInt8) : Prop where
  own : Owns (fun k => w.heap.size ≤ k ∧ k ≠ X) wr b most g (all.drop g)
  box : wr.heap[X]? = some (.cells #[.string ⟨all.toArray⟩, .int .i64 g, .int .i64 most] 29 (0, 0))
  low : Below w.heap.size w wr
  hX : w.heap.size ≤ X
  hg : g ≤ all.length

/-- behind an act -/
def Next (w wx : World) (X b most lim : Nat) (s9 : Value) : Prop := ∃ g all, s9 = .bool true ∧ Play w wx X b most g all ∧ all.length ≤ lim
/-- at a round's head -/
def Round (w wr : World) (X b most n : Nat) (z : Value) : Prop := ∃ (i g : Nat) (all : List UInt8), i ≤ n ∧ all.length ≤ 100 * i ∧ z = .int .i64 i ∧ Play w wr X b most g all
/-- behind the document's own act: a new block Y holds what it answers -/
def Mid (wr wx : World) (Y most g : Nat) (all : List UInt8) : Prop :=
  wx.heap[Y]? = some (.cells #[.string ⟨all.toArray⟩, .int .i64 g, .int .i64 most] 29 (0, 0)) ∧ wr.heap.size ≤ Y ∧ Below wr.heap.size wr wx

section
variable {w wr : World} {X b most g : Nat} {all : List UInt8}
theorem held_out {W w' : World} {lb o : Nat} {v0 v1 v2 v3 : Value} (h1 : X < W.heap.size) (h2 : lb < W.heap.size) (x0 : W.cell? ⟨X, 0, none⟩ = some v0) (x1 : W.cell? ⟨X, 1, none⟩ = some v1) (x2 : W.cell? ⟨X, 2, none⟩ = some v2) (c1 : W.cell? ⟨lb, o, none⟩ = some v3)
    (S : Nat → Prop) (ho : Out S W w') (nx : ¬ S X) (nl : ¬ S lb) : X < w'.heap.size ∧ lb < w'.heap.size ∧ w'.cell? ⟨X, 0, none⟩ = some v0 ∧ w'.cell? ⟨X, 1, none⟩ = some v1 ∧ w'.cell? ⟨X, 2, none⟩ = some v2 ∧ w'.cell? ⟨lb, o, none⟩ = some v3 :=
  ⟨Nat.lt_of_lt_of_le h1 ho.size, Nat.lt_of_lt_of_le h2 ho.size, (ho.cell h1 nx).trans x0, (ho.cell h1 nx).trans x1, (ho.cell h1 nx).trans x2, (ho.cell h2 nl).trans c1⟩
theorem out_three (W : World) (N : Nat) (a b c : Value) : Out (fun k => k = N) W (((W.setCell ⟨N, 0, none⟩ a).setCell ⟨N, 1, none⟩ b).setCell ⟨N, 2, none⟩ c) :=
  (((Out.refl (fun k => k = N) W).setCell (p := ⟨N, 0, none⟩) (fun _ => rfl) a).setCell (p := ⟨N, 1, none⟩) (fun _ => rfl) b).setCell (p := ⟨N, 2, none⟩) (fun _ => rfl) c
theorem row_three {W : World} {N : Nat} {x y z : Value} {T : TypeId} {fr : Nat × Nat} (h : W.heap[N]? = some (.cells #[x, y, z] T fr)) (a b c : Value) :
    (((W.setCell ⟨N, 0, none⟩ a).setCell ⟨N, 1, none⟩ b).setCell ⟨N, 2, none⟩ c).heap[N]? = some (.cells #[a, b, c] T fr) := by
  rw [at_set (at_set (at_set h 0 a) 1 b) 2 c]; rfl
/-- .. the slots that tell of it -/
def AtMid (wr wx : World) (most g : Nat) (all : List UInt8) (v s10 s11 : Value) : Prop := ∃ Y, s10 = .pointer (some ⟨Y, 0, none⟩) ∧ s11 = v ∧ Mid wr wx Y most g all
theorem mid_a {w5 : World} (h : Below wr.drew.heap.size wr.drew w5) : Mid wr (w5.alloc (.cells #[.string ⟨all.toArray⟩, .int .i64 g, .int .i64 most] 29)) w5.heap.size most g all :=
  ⟨at_new _ _, h.size, (Below.drew (Below.refl wr.heap.size wr)).trans (h.alloc h.size _)⟩
theorem mid_b {w5 : World} {x y z : Value} (h : Below (wr.drew.alloc (.cells #[x, y, z] 29)).heap.size (wr.drew.alloc (.cells #[x, y, z] 29)) w5) :
    Mid wr (((w5.setCell ⟨wr.heap.size, 0, none⟩ (.string ⟨all.toArray⟩)).setCell ⟨wr.heap.size, 1, none⟩ (.int .i64 g)).setCell ⟨wr.heap.size, 2, none⟩ (.int .i64 most)) wr.heap.size most g all := by
  refine ⟨row_three ((h.block wr.heap.size (by simp)).trans (at_newk wr.drew _ rfl)) _ _ _, Nat.le_refl _, ?_⟩
  have h1 : Below wr.heap.size wr (wr.drew.alloc (.cells #[x, y, z] 29)) := (Below.drew (Below.refl wr.heap.size wr)).alloc (Nat.le_refl _) _
  exact (h1.trans (h.mono (by simp))).trans ((out_three w5 wr.heap.size _ _ _).below (Nat.le_trans (by simp) h.size) (fun i e => by omega))
theorem Play.same {w' : World} (h : Play w wr X b most g all) (hb : Below wr.heap.size wr w') : Play w w' X b most g all :=
  ⟨h.own.same hb, (hb.block X (at_lt h.box)).trans h.box, h.low.trans (hb.mono h.low.size), h.hX, h.hg⟩
theorem Play.does {g' : Nat} {t : List UInt8} {v : Value} {e : Ending} {w' : World} (h : Play w wr X b most g all) (hd : Does (fun k => w.heap.size ≤ k ∧ k ≠ X) b most g' t v wr e w') :
    e = .returned v ∧ Owns (fun k => w.heap.size ≤ k ∧ k ≠ X) w' b most g' t ∧ w'.heap[X]? = wr.heap[X]? ∧ Below w.heap.size w w' ∧ wr.heap.size ≤ w'.heap.size ∧ ∀ k, k < w.heap.size → w'.heap[k]? = wr.heap[k]? :=
  ⟨hd.1, hd.2.1, hd.2.2.block X (at_lt h.box) (fun h => h.2 rfl), h.low.trans (hd.2.2.below h.low.size fun _ h => h.1), hd.2.2.size, fun k hk => hd.2.2.block k (Nat.lt_of_lt_of_le hk h.low.size) fun h => by have := h.1; omega⟩
theorem held_four {W w' : World} {Y lb o : Nat} {v0 v1 v2 v3 : Value} (h1 : Y < W.heap.size) (h2 : lb < W.heap.size) (x0 : W.cell? ⟨Y, 0, none⟩ = some v0) (x1 : W.cell? ⟨Y, 1, none⟩ = some v1) (x2 : W.cell? ⟨Y, 2, none⟩ = some v2) (c1 : W.cell? ⟨lb, o, none⟩ = some v3)
    (S : Nat → Prop) (ho : Out S W w') (nx : ¬ S Y) (nl : ¬ S lb) : w'.cell? ⟨Y, 0, none⟩ = some v0 ∧ w'.cell? ⟨Y, 1, none⟩ = some v1 ∧ w'.cell? ⟨Y, 2, none⟩ = some v2 ∧ w'.cell? ⟨lb, o, none⟩ = some v3 :=
  ⟨(ho.cell h1 nx).trans x0, (ho.cell h1 nx).trans x1, (ho.cell h1 nx).trans x2, (ho.cell h2 nl).trans c1⟩
/-- the blocks that the ring may have, beside X and Y -/
def Gr (w : World) (X Y k : Nat) : Prop := (w.heap.size ≤ k ∧ k ≠ X) ∧ k ≠ Y
theorem Play.mid {wc : World} {Y g' : Nat} {all' : List UInt8} (h : Play w wr X b most g all) (hm : Mid wr wc Y most g' all') : Owns (Gr w X Y) wc b most g (all.drop g) ∧ wc.heap[X]? = wr.heap[X]? ∧ Y ≠ X ∧ X < wc.heap.size ∧ ∀ k, wc.heap.size ≤ k → Gr w X Y k := by
  obtain ⟨q, hr, hq⟩ := h.own
  have hx := at_lt h.box
  have hy := at_lt hm.1
  have h1 := hm.2.1
  have h2 := hm.2.2.size
  have h3 := h.low.size
  refine ⟨⟨q, hr.below hm.2.2, fun k hk => ⟨hq k hk, fun e => ?_⟩⟩, hm.2.2.block X hx, by omega, by omega, fun k hk => ⟨⟨by omega, by omega⟩, by omega⟩⟩
  have := hr.lt k hk
  omega
theorem Play.mine (h : Play w wr X b most g all) : Mine w wr b most g (all.drop g) := by
  obtain ⟨q, hr, hq⟩ := h.own
  exact ⟨⟨q, hr, fun k hk => (hq k hk).1⟩, Out.ofBelow h.low fun i _ hn => by omega⟩
theorem play_next {wc w6 : World} {Y g' : Nat} {all' : List UInt8} (h : Play w wr X b most g all) (hm : Mid wr wc Y most g' all') (h6 : Owns (Gr w X Y) w6 b most g' (all'.drop g')) (ho : Out (Gr w X Y) wc w6) (hg : g' ≤ all'.length) :
    Play w (((w6.setCell ⟨X, 0, none⟩ (.string ⟨all'.toArray⟩)).setCell ⟨X, 1, none⟩ (.int .i64 g')).setCell ⟨X, 2, none⟩ (.int .i64 most)) X b most g' all' := by
  obtain ⟨_, h2, _, h4, _⟩ := h.mid hm
  have hb6 : w6.heap[X]? = some (.cells #[.string ⟨all.toArray⟩, .int .i64 g, .int .i64 most] 29 (0, 0)) := (ho.block X h4 fun h => h.1.2 rfl).trans (h2.trans h.box)
  have hlow : Below w.heap.size w wc := h.low.trans (hm.2.2.mono h.low.size)
  refine ⟨?_, row_three hb6 _ _ _, (hlow.trans (ho.below hlow.size fun _ h => h.1.1)).trans ((out_three _ _ _ _ _).below (Nat.le_trans hlow.size ho.size) fun i e => by subst e; exact h.hX), h.hX, hg⟩
  obtain ⟨q, hr, hq⟩ := h6
  exact ⟨q, hr.out (out_three _ _ _ _ _) fun k hk => (hq k hk).1.2, fun k hk => (hq k hk).1⟩
theorem Owns.apart {G : Nat → Prop} {t : List UInt8} (h : Owns G w b most g t) : Owns (fun k => G k ∧ k ≠ w.heap.size) w b most g t := by
  obtain ⟨q, hr, hq⟩ := h
  exact ⟨q, hr, fun k hk => ⟨hq k hk, Nat.ne_of_lt (hr.lt k hk)⟩⟩
end

theorem kinds (k : Int) : (k % 5 == 0) = true ∨ ((k % 5 == 0) = false ∧ (k % 5 == 1) = true) ∨ ((k % 5 == 0) = false ∧ (k % 5 == 1) = false ∧ (k % 5 == 2) = true) ∨
    ((k % 5 == 0) = false ∧ (k % 5 == 1) = false ∧ (k % 5 == 2) = false ∧ (k % 5 == 3) = true) ∨ ((k % 5 == 0) = false ∧ (k % 5 == 1) = false ∧ (k % 5 == 2) = false ∧ (k % 5 == 3) = false) := by
  simp only [beq_iff_eq, beq_eq_false_iff_ne]
  omega

set_option maxRecDepth 100000 in
set_option maxHeartbeats 20000000 in
theorem plays_walk (mo : Int) (h0 : -9223372036854775808 ≤ mo) (h1 : mo ≤ 9223372036854775807) (v : Value) (n : Nat) (E : Nat → Nat → Value) (w : World) (hrow : Row w v n 3 E)
    (hE : ∀ i, i < n → ∃ (k : Int) (s : ByteArray) (m : Int), E i 0 = .int .u8 k ∧ 0 ≤ k ∧ k ≤ 255 ∧ E i 1 = .string s ∧ s.size ≤ maxLen ∧ E i 2 = .int .i64 m ∧ -9223372036854775808 ≤ m ∧ m ≤ 9223372036854775807) :
    Calls Try.prog 3 #[.int .i64 mo, v] w fun e w' => e = .returned (.bool true) ∧ Below w.heap.size w w' := by
  obtain ⟨a, cap, rfl, hc1, hc2, hc3⟩ := hrow
  unfold maxLen at hc2
  by_cases hn : n ≤ 60
  · by_cases hm : 1 ≤ mo ∧ mo ≤ 1048576
    · obtain ⟨hm0, hm1⟩ := hm
      obtain ⟨m, rfl⟩ : ∃ m : Nat, mo = m := ⟨mo.toNat, by omega⟩
      go_enter Try.func3, Try.ntmps3
      go_wp2_with fail
      refine (own_new (G := fun k => w.heap.size ≤ k) _ (by omega) (by omega) w (fun _ h => h)).mono ?_
      rintro e w1 ⟨rfl, g1, o1⟩
      have P1 : Hid (Play w (w1.alloc (.cells #[.string ⟨#[]⟩, .int .i64 0, .int .i64 m] 29)) w1.heap.size w.heap.size m 0 []) :=
        Lib.hid ⟨(by simpa using g1.apart.same ((Below.refl _ _).alloc (Nat.le_refl _) _)), at_new _ _, (o1.below (Nat.le_refl _) fun _ h => h).alloc o1.size _, o1.size, Nat.le_refl _⟩
      have hs1 := o1.size
      clear g1 o1
      go_wp2_with fail
      generalize w1.alloc (.cells #[.string ⟨#[]⟩, .int .i64 0, .int .i64 m] 29) = w2 at P1 ⊢
      generalize w1.heap.size = X at *
      go_loopw [8] (fun z wr => Round w wr X w.heap.size m n z) (fun z _ => n - (intOf z).toNat)
      case atStart => exact ⟨0, 0, [], Nat.zero_le _, Nat.zero_le _, rfl, P1.out⟩
      case round =>
        obtain ⟨i, g, all, hi, hA, rfl, hP⟩ := hrel
        have HP := Lib.hid hP; clear hP
        by_cases hlt : i < n
        · rcases hc3 with hz | ⟨lb, off, rfl, hb, hcells⟩
          · omega
          · obtain ⟨k, s, mm, e0, k0, k1, e1, hsz, e2, mm0, mm1⟩ := hE i hlt
            have c0 : wr.cell? ⟨lb, off + i * 3, none⟩ = some (.int .u8 k) := by
              rw [HP.out.low.cell hb, ← e0]; exact hcells i 0 hlt (by omega)
            have c1 : wr.cell? ⟨lb, off + i * 3 + 1, none⟩ = some (.string s) := by
              rw [HP.out.low.cell hb, ← e1]; exact hcells i 1 hlt (by omega)
            have c2 : wr.cell? ⟨lb, off + i * 3 + 2, none⟩ = some (.int .i64 mm) := by
              rw [HP.out.low.cell hb, ← e2]; exact hcells i 2 hlt (by omega)
            clear hcells e0 e1 e2
            unfold maxLen at hsz
            have i0 : (0 : Int) ≤ (i : Int) := by omega
            have i1 : (i : Int) < (n : Int) := by omega
            by_cases hbig : s.size ≤ 100
            · have hg := HP.out.hg
              obtain ⟨x0, x1, x2⟩ := row3 HP.out.box
              have xlt := at_lt HP.out.box
              have lbl : lb < wr.heap.size := Nat.lt_of_lt_of_le hb HP.out.low.size
              go_upto_block 2 with fail
              go_cut [9] (fun s9 wx => Next w wx X w.heap.size m (100 * (i + 1)) s9)
              case first =>
                rcases kinds k with b0 | ⟨b0, b1⟩ | ⟨b0, b1, b2⟩ | ⟨b0, b1, b2, b3⟩ | ⟨b0, b1, b2, b3⟩
                · as_aux_lemma =>
                    have hsl : s.data.toList.length = s.size := by rw [Array.length_toList]; rfl
                    have hml := HP.out.own.len
                    obtain ⟨all2, ha2⟩ : ∃ x, x = putA m (all.drop g).length all s.data.toList := ⟨_, rfl⟩
                    obtain ⟨g2, hg2⟩ : ∃ x, x = g := ⟨_, rfl⟩
                    obtain ⟨B, hB⟩ : ∃ x, x = putB m (all.drop g) s.data.toList := ⟨_, rfl⟩
                    have HC : Hid (∀ W, Calls Try.prog 8 #[.agg #[.string ⟨all.toArray⟩, .int .i64 g, .int .i64 m], .string s] W fun e w' => e = .returned (.tuple #[.agg #[.string ⟨all2.toArray⟩, .int .i64 g2, .int .i64 m], .bool B]) ∧ Below W.heap.size W w') :=
                      Lib.hid fun W => by rw [ha2, hg2, hB]; exact rput_calls all g m s hg (by omega) (by omega) W
                    have HD : Hid (∀ (G : Nat → Prop) (W : World), Owns G W w.heap.size m g (all.drop g) → (∀ k, W.heap.size ≤ k → G k) → Calls Try.prog 9 #[.pointer (some ⟨w.heap.size, 0, none⟩), .string s] W (Does G w.heap.size m g2 (all2.drop g2) (.bool B) W)) :=
                      Lib.hid fun G W hW hf => by rw [ha2, hg2, hB, putA_drop m g all _ hg]; exact own_put hW hf s
                    have hle : g2 ≤ all2.length := by rw [ha2, hg2]; exact (putA_len m _ g all _ hg).1
                    have hln : all2.length ≤ 100 * (i + 1) := by have := (putA_len m (all.drop g).length g all s.data.toList hg).2; rw [← ha2, hsl] at this; omega
                    clear ha2 hg2 hB
                    go_upto_region 16 with fail
                    go_cut [10, 11] (fun sy sv wx => AtMid wr wx m g2 all2 (.bool B) sy sv)
                    case first =>
                      go_region_held3 (fun w' => X < w'.heap.size ∧ lb < w'.heap.size ∧ w'.cell? ⟨X, 0, none⟩ = some (.string ⟨all.toArray⟩) ∧ w'.cell? ⟨X, 1, none⟩ = some (.int .i64 g) ∧ w'.cell? ⟨X, 2, none⟩ = some (.int .i64 m) ∧ w'.cell? ⟨lb, off + i * 3 + 1, none⟩ = some (.string s))
                        (first
                          | exact ⟨xlt, lbl, x0, x1, x2, c1⟩
                          | exact held_out xlt lbl x0 x1 x2 c1 (fun _ => False) ((Out.refl _ wr).drew.alloc _) id id
                          | exact Hq.out
                          | exact held_out Hq.out.1 Hq.out.2.1 Hq.out.2.2.1 Hq.out.2.2.2.1 Hq.out.2.2.2.2.1 Hq.out.2.2.2.2.2 (fun _ => False) ((Out.refl _ w5).alloc _) id id
                          | exact held_out Hq.out.1 Hq.out.2.1 Hq.out.2.2.1 Hq.out.2.2.2.1 Hq.out.2.2.2.2.1 Hq.out.2.2.2.2.2 (fun k => k = wr.heap.size) (out_three _ _ _ _ _) (Nat.ne_of_lt xlt) (Nat.ne_of_lt lbl))
                        (first
                          | (go_at_call 8; refine (HC.out _).mono ?_; rintro e w5 ⟨rfl, hb5⟩; have Hq := Lib.hid (held_out (And.left (by assumption)) (And.left (And.right (by assumption))) (And.left (And.right (And.right (by assumption)))) (And.left (And.right (And.right (And.right (by assumption))))) (And.left (And.right (And.right (And.right (And.right (by assumption)))))) (And.right (And.right (And.right (And.right (And.right (by assumption)))))) (fun _ => False) (Out.ofNew hb5) id id); (try (have hn : w5.heap[wr.heap.size]? = some (.cells #[.string ⟨#[]⟩, .int .i64 0, .int .i64 0] 29 (0, 0)) := (hb5.block wr.heap.size (by simp)).trans (at_newk wr.drew _ rfl); obtain ⟨n0, n1, n2⟩ := row3 hn; have f0 := at_frozen hn 0; have f1 := at_frozen hn 1; have f2 := at_frozen hn 2; clear hn))))
                      all_goals
                        go_wp2_with fail
                        go_meet
                        first
                          | exact ⟨_, rfl, rfl, mid_a hb5⟩
                          | exact ⟨_, rfl, rfl, mid_b hb5⟩
                    case rest =>
                      obtain ⟨Y, rfl, rfl, hM⟩ := hcut
                      obtain ⟨y0, y1, y2⟩ := row3 hM.1
                      have ylt := at_lt hM.1
                      obtain ⟨hO, hX6, hYX, xlt2, hfr⟩ := HP.out.mid hM
                      have lbl2 : lb < wc.heap.size := Nat.lt_of_lt_of_le lbl hM.2.2.size
                      have d1 : wc.cell? ⟨lb, off + i * 3 + 1, none⟩ = some (.string s) := by rw [hM.2.2.cell lbl]; exact c1
                      have lnX : lb ≠ X := fun e => by have := HP.out.hX; omega
                      have lnG : ¬ Gr w X Y lb := fun h => by have := h.1.1; omega
                      have lnY : ¬ Gr w X Y Y := fun h => h.2 rfl
                      have HOw := Lib.hid hO; clear hO
                      have HX6 := Lib.hid hX6; clear hX6
                      have HM := Lib.hid hM; clear hM
                      have HFr := Lib.hid hfr; clear hfr
                      clear x0 x1 x2
                      go_wp2_with fail
                      go_region_held3 (fun w' => w'.cell? ⟨Y, 0, none⟩ = some (.string ⟨all2.toArray⟩) ∧ w'.cell? ⟨Y, 1, none⟩ = some (.int .i64 g2) ∧ w'.cell? ⟨Y, 2, none⟩ = some (.int .i64 m) ∧ w'.cell? ⟨lb, off + i * 3 + 1, none⟩ = some (.string s))
                        (first
                          | exact ⟨y0, y1, y2, d1⟩
                          | exact Hq.out
                          | exact held_four (Nat.lt_of_lt_of_le ylt o6.size) (Nat.lt_of_lt_of_le lbl2 o6.size) Hq.out.1 Hq.out.2.1 Hq.out.2.2.1 Hq.out.2.2.2 (fun k => k = X) (out_three _ _ _ _ _) hYX lnX)
                        (first
                          | (go_at_call 9; refine (HD.out (Gr w X Y) _ (by exact HOw.out.same ⟨rfl, rfl, rfl, Nat.le_refl _, fun _ _ => rfl⟩) (by exact HFr.out)).mono ?_; rintro e w6 ⟨rfl, h6, o6⟩; have Hq := Lib.hid (held_four ylt lbl2 y0 y1 y2 d1 (Gr w X Y) o6.ofDrew lnY lnG); have hbx := (o6.ofDrew.block X xlt2 fun h => h.1.2 rfl).trans (HX6.out.trans HP.out.box); obtain ⟨x0, x1, x2⟩ := row3 hbx; have f0 := at_frozen hbx 0; have f1 := at_frozen hbx 1; have f2 := at_frozen hbx 2; clear hbx))
                      all_goals
                        go_wp2_with fail
                        go_meet
                        exact ⟨g2, all2, rfl, play_next HP.out HM.out h6 o6.ofDrew hle, hln⟩
                · as_aux_lemma =>
                    have hsl : s.data.toList.length = s.size := by rw [Array.length_toList]; rfl
                    have hml := HP.out.own.len
                    obtain ⟨all2, ha2⟩ : ∃ x, x = all ++ s.data.toList := ⟨_, rfl⟩
                    obtain ⟨N, hN⟩ : ∃ x : Nat, x = forceN m (all.drop g) s.data.toList := ⟨_, rfl⟩
                    obtain ⟨g2, hg2⟩ : ∃ x, x = g + N := ⟨_, rfl⟩
                    have HC : Hid (∀ W, Calls Try.prog 10 #[.agg #[.string ⟨all.toArray⟩, .int .i64 g, .int .i64 m], .string s] W fun e w' => e = .returned (.tuple #[.agg #[.string ⟨all2.toArray⟩, .int .i64 g2, .int .i64 m], .int .i64 N]) ∧ Below W.heap.size W w') :=
                      Lib.hid fun W => by rw [ha2, hg2, hN]; unfold forceN; rw [List.length_drop, hsl]; exact rforce_calls all g m s hg (by omega) (by omega) (by omega) W
                    have HD : Hid (∀ (G : Nat → Prop) (W : World), Owns G W w.heap.size m g (all.drop g) → (∀ k, W.heap.size ≤ k → G k) → Calls Try.prog 11 #[.pointer (some ⟨w.heap.size, 0, none⟩), .string s] W (Does G w.heap.size m g2 (all2.drop g2) (.int .i64 N) W)) :=
                      Lib.hid fun G W hW hf => by rw [ha2, hg2, hN, ← List.drop_drop, List.drop_append_of_le_length hg]; exact own_force hW hf s (by omega) (by simp; omega)
                    have hle : g2 ≤ all2.length := by rw [ha2, hg2, hN]; unfold forceN; simp; omega
                    have hln : all2.length ≤ 100 * (i + 1) := by rw [ha2, List.length_append, hsl]; omega
                    clear ha2 hg2 hN
                    go_upto_region 19 with fail
                    go_cut [12, 13] (fun sy sv wx => AtMid wr wx m g2 all2 (.int .i64 N) sy sv)
                    case first =>
                      go_region_held3 (fun w' => X < w'.heap.size ∧ lb < w'.heap.size ∧ w'.cell? ⟨X, 0, none⟩ = some (.string ⟨all.toArray⟩) ∧ w'.cell? ⟨X, 1, none⟩ = some (.int .i64 g) ∧ w'.cell? ⟨X, 2, none⟩ = some (.int .i64 m) ∧ w'.cell? ⟨lb, off + i * 3 + 1, none⟩ = some (.string s))
                        (first
                          | exact ⟨xlt, lbl, x0, x1, x2, c1⟩
                          | exact held_out xlt lbl x0 x1 x2 c1 (fun _ => False) ((Out.refl _ wr).drew.alloc _) id id
                          | exact Hq.out
                          | exact held_out Hq.out.1 Hq.out.2.1 Hq.out.2.2.1 Hq.out.2.2.2.1 Hq.out.2.2.2.2.1 Hq.out.2.2.2.2.2 (fun _ => False) ((Out.refl _ w5).alloc _) id id
                          | exact held_out Hq.out.1 Hq.out.2.1 Hq.out.2.2.1 Hq.out.2.2.2.1 Hq.out.2.2.2.2.1 Hq.out.2.2.2.2.2 (fun k => k = wr.heap.size) (out_three _ _ _ _ _) (Nat.ne_of_lt xlt) (Nat.ne_of_lt lbl))
                        (first
                          | (go_at_call 10; refine (HC.out _).mono ?_; rintro e w5 ⟨rfl, hb5⟩; have Hq := Lib.hid (held_out (And.left (by assumption)) (And.left (And.right (by assumption))) (And.left (And.right (And.right (by assumption)))) (And.left (And.right (And.right (And.right (by assumption))))) (And.left (And.right (And.right (And.right (And.right (by assumption)))))) (And.right (And.right (And.right (And.right (And.right (by assumption)))))) (fun _ => False) (Out.ofNew hb5) id id); (try (have hn : w5.heap[wr.heap.size]? = some (.cells #[.string ⟨#[]⟩, .int .i64 0, .int .i64 0] 29 (0, 0)) := (hb5.block wr.heap.size (by simp)).trans (at_newk wr.drew _ rfl); obtain ⟨n0, n1, n2⟩ := row3 hn; have f0 := at_frozen hn 0; have f1 := at_frozen hn 1; have f2 := at_frozen hn 2; clear hn))))
                      all_goals
                        go_wp2_with fail
                        go_meet
                        first
                          | exact ⟨_, rfl, rfl, mid_a hb5⟩
                          | exact ⟨_, rfl, rfl, mid_b hb5⟩
                    case rest =>
                      obtain ⟨Y, rfl, rfl, hM⟩ := hcut
                      obtain ⟨y0, y1, y2⟩ := row3 hM.1
                      have ylt := at_lt hM.1
                      obtain ⟨hO, hX6, hYX, xlt2, hfr⟩ := HP.out.mid hM
                      have lbl2 : lb < wc.heap.size := Nat.lt_of_lt_of_le lbl hM.2.2.size
                      have d1 : wc.cell? ⟨lb, off + i * 3 + 1, none⟩ = some (.string s) := by rw [hM.2.2.cell lbl]; exact c1
                      have lnX : lb ≠ X := fun e => by have := HP.out.hX; omega
                      have lnG : ¬ Gr w X Y lb := fun h => by have := h.1.1; omega
                      have lnY : ¬ Gr w X Y Y := fun h => h.2 rfl
                      have HOw := Lib.hid hO; clear hO
                      have HX6 := Lib.hid hX6; clear hX6
                      have HM := Lib.hid hM; clear hM
                      have HFr := Lib.hid hfr; clear hfr
                      clear x0 x1 x2
                      go_wp2_with fail
                      go_region_held3 (fun w' => w'.cell? ⟨Y, 0, none⟩ = some (.string ⟨all2.toArray⟩) ∧ w'.cell? ⟨Y, 1, none⟩ = some (.int .i64 g2) ∧ w'.cell? ⟨Y, 2, none⟩ = some (.int .i64 m) ∧ w'.cell? ⟨lb, off + i * 3 + 1, none⟩ = some (.string s))
                        (first
                          | exact ⟨y0, y1, y2, d1⟩
                          | exact Hq.out
                          | exact held_four (Nat.lt_of_lt_of_le ylt o6.size) (Nat.lt_of_lt_of_le lbl2 o6.size) Hq.out.1 Hq.out.2.1 Hq.out.2.2.1 Hq.out.2.2.2 (fun k => k = X) (out_three _ _ _ _ _) hYX lnX)
                        (first
                          | (go_at_call 11; refine (HD.out (Gr w X Y) _ (by exact HOw.out.same ⟨rfl, rfl, rfl, Nat.le_refl _, fun _ _ => rfl⟩) (by exact HFr.out)).mono ?_; rintro e w6 ⟨rfl, h6, o6⟩; have Hq := Lib.hid (held_four ylt lbl2 y0 y1 y2 d1 (Gr w X Y) o6.ofDrew lnY lnG); have hbx := (o6.ofDrew.block X xlt2 fun h => h.1.2 rfl).trans (HX6.out.trans HP.out.box); obtain ⟨x0, x1, x2⟩ := row3 hbx; have f0 := at_frozen hbx 0; have f1 := at_frozen hbx 1; have f2 := at_frozen hbx 2; clear hbx))
                      all_goals
                        go_wp2_with fail
                        go_meet
                        exact ⟨g2, all2, rfl, play_next HP.out HM.out h6 o6.ofDrew hle, hln⟩
                · as_aux_lemma =>
                    have hsl : s.data.toList.length = s.size := by rw [Array.length_toList]; rfl
                    have hml := HP.out.own.len
                    obtain ⟨all2, ha2⟩ : ∃ x, x = all := ⟨_, rfl⟩
                    obtain ⟨T, hT⟩ : ∃ x : ByteArray, x = ⟨((all.drop g).take (upto mm (all.drop g))).toArray⟩ := ⟨_, rfl⟩
                    obtain ⟨g2, hg2⟩ : ∃ x, x = g + upto mm (all.drop g) := ⟨_, rfl⟩
                    have HC : Hid (∀ W, Calls Try.prog 12 #[.agg #[.string ⟨all.toArray⟩, .int .i64 g, .int .i64 m], .int .i64 mm] W fun e w' => e = .returned (.tuple #[.agg #[.string ⟨all2.toArray⟩, .int .i64 g2, .int .i64 m], .string T]) ∧ Below W.heap.size W w') :=
                      Lib.hid fun W => by rw [ha2, hg2, hT]; exact rtake_calls all g m mm hg (by omega) W
                    have HD : Hid (∀ (G : Nat → Prop) (W : World), Owns G W w.heap.size m g (all.drop g) → (∀ k, W.heap.size ≤ k → G k) → Calls Try.prog 13 #[.pointer (some ⟨w.heap.size, 0, none⟩), .int .i64 mm] W (Does G w.heap.size m g2 (all2.drop g2) (.string T) W)) :=
                      Lib.hid fun G W hW hf => by rw [ha2, hg2, hT, ← List.drop_drop]; exact own_take hW mm (by simp; omega)
                    have hle : g2 ≤ all2.length := by rw [ha2, hg2]; have : upto mm (all.drop g) ≤ (all.drop g).length := Nat.min_le_right _ _; simp at this; omega
                    have hln : all2.length ≤ 100 * (i + 1) := by rw [ha2]; omega
                    clear ha2 hg2 hT
                    go_upto_region 22 with fail
                    go_cut [14, 15] (fun sy sv wx => AtMid wr wx m g2 all2 (.string T) sy sv)
                    case first =>
                      go_region_held3 (fun w' => X < w'.heap.size ∧ lb < w'.heap.size ∧ w'.cell? ⟨X, 0, none⟩ = some (.string ⟨all.toArray⟩) ∧ w'.cell? ⟨X, 1, none⟩ = some (.int .i64 g) ∧ w'.cell? ⟨X, 2, none⟩ = some (.int .i64 m) ∧ w'.cell? ⟨lb, off + i * 3 + 2, none⟩ = some (.int .i64 mm))
                        (first
                          | exact ⟨xlt, lbl, x0, x1, x2, c2⟩
                          | exact held_out xlt lbl x0 x1 x2 c2 (fun _ => False) ((Out.refl _ wr).drew.alloc _) id id
                          | exact Hq.out
                          | exact held_out Hq.out.1 Hq.out.2.1 Hq.out.2.2.1 Hq.out.2.2.2.1 Hq.out.2.2.2.2.1 Hq.out.2.2.2.2.2 (fun _ => False) ((Out.refl _ w5).alloc _) id id
                          | exact held_out Hq.out.1 Hq.out.2.1 Hq.out.2.2.1 Hq.out.2.2.2.1 Hq.out.2.2.2.2.1 Hq.out.2.2.2.2.2 (fun k => k = wr.heap.size) (out_three _ _ _ _ _) (Nat.ne_of_lt xlt) (Nat.ne_of_lt lbl))
                        (first
                          | (go_at_call 12; refine (HC.out _).mono ?_; rintro e w5 ⟨rfl, hb5⟩; have Hq := Lib.hid (held_out (And.left (by assumption)) (And.left (And.right (by assumption))) (And.left (And.right (And.right (by assumption)))) (And.left (And.right (And.right (And.right (by assumption))))) (And.left (And.right (And.right (And.right (And.right (by assumption)))))) (And.right (And.right (And.right (And.right (And.right (by assumption)))))) (fun _ => False) (Out.ofNew hb5) id id); (try (have hn : w5.heap[wr.heap.size]? = some (.cells #[.string ⟨#[]⟩, .int .i64 0, .int .i64 0] 29 (0, 0)) := (hb5.block wr.heap.size (by simp)).trans (at_newk wr.drew _ rfl); obtain ⟨n0, n1, n2⟩ := row3 hn; have f0 := at_frozen hn 0; have f1 := at_frozen hn 1; have f2 := at_frozen hn 2; clear hn))))
                      all_goals
                        go_wp2_with fail
                        go_meet
                        first
                          | exact ⟨_, rfl, rfl, mid_a hb5⟩
                          | exact ⟨_, rfl, rfl, mid_b hb5⟩
                    case rest =>
                      obtain ⟨Y, rfl, rfl, hM⟩ := hcut
                      obtain ⟨y0, y1, y2⟩ := row3 hM.1
                      have ylt := at_lt hM.1
                      obtain ⟨hO, hX6, hYX, xlt2, hfr⟩ := HP.out.mid hM
                      have lbl2 : lb < wc.heap.size := Nat.lt_of_lt_of_le lbl hM.2.2.size
                      have d1 : wc.cell? ⟨lb, off + i * 3 + 2, none⟩ = some (.int .i64 mm) := by rw [hM.2.2.cell lbl]; exact c2
                      have lnX : lb ≠ X := fun e => by have := HP.out.hX; omega
                      have lnG : ¬ Gr w X Y lb := fun h => by have := h.1.1; omega
                      have lnY : ¬ Gr w X Y Y := fun h => h.2 rfl
                      have HOw := Lib.hid hO; clear hO
                      have HX6 := Lib.hid hX6; clear hX6
                      have HM := Lib.hid hM; clear hM
                      have HFr := Lib.hid hfr; clear hfr
                      clear x0 x1 x2
                      go_wp2_with fail
                      go_region_held3 (fun w' => w'.cell? ⟨Y, 0, none⟩ = some (.string ⟨all2.toArray⟩) ∧ w'.cell? ⟨Y, 1, none⟩ = some (.int .i64 g2) ∧ w'.cell? ⟨Y, 2, none⟩ = some (.int .i64 m) ∧ w'.cell? ⟨lb, off + i * 3 + 2, none⟩ = some (.int .i64 mm))
                        (first
                          | exact ⟨y0, y1, y2, d1⟩
                          | exact Hq.out
                          | exact held_four (Nat.lt_of_lt_of_le ylt o6.size) (Nat.lt_of_lt_of_le lbl2 o6.size) Hq.out.1 Hq.out.2.1 Hq.out.2.2.1 Hq.out.2.2.2 (fun k => k = X) (out_three _ _ _ _ _) hYX lnX)
                        (first
                          | (go_at_call 13; refine (HD.out (Gr w X Y) _ (by exact HOw.out.same ⟨rfl, rfl, rfl, Nat.le_refl _, fun _ _ => rfl⟩) (by exact HFr.out)).mono ?_; rintro e w6 ⟨rfl, h6, o6⟩; have Hq := Lib.hid (held_four ylt lbl2 y0 y1 y2 d1 (Gr w X Y) o6.ofDrew lnY lnG); have hbx := (o6.ofDrew.block X xlt2 fun h => h.1.2 rfl).trans (HX6.out.trans HP.out.box); obtain ⟨x0, x1, x2⟩ := row3 hbx; have f0 := at_frozen hbx 0; have f1 := at_frozen hbx 1; have f2 := at_frozen hbx 2; clear hbx))
                      all_goals
                        go_wp2_with fail
                        go_meet
                        exact ⟨g2, all2, rfl, play_next HP.out HM.out h6 o6.ofDrew hle, hln⟩
                · as_aux_lemma =>
                    obtain ⟨all2, ha2⟩ : ∃ x, x = all := ⟨_, rfl⟩
                    obtain ⟨T, hT⟩ : ∃ x : ByteArray, x = ⟨((all.drop g).take (upto mm (all.drop g))).toArray⟩ := ⟨_, rfl⟩
                    obtain ⟨g2, hg2⟩ : ∃ x, x = g + upto mm (all.drop g) := ⟨_, rfl⟩
                    have HC : Hid (∀ W, Calls Try.prog 12 #[.agg #[.string ⟨all.toArray⟩, .int .i64 g, .int .i64 m], .int .i64 mm] W fun e w' => e = .returned (.tuple #[.agg #[.string ⟨all2.toArray⟩, .int .i64 g2, .int .i64 m], .string T]) ∧ Below W.heap.size W w') :=
                      Lib.hid fun W => by rw [ha2, hg2, hT]; exact rtake_calls all g m mm hg (by omega) W
                    have HD : Hid (∀ W, Play w W X w.heap.size m g all → Calls Try.prog 14 #[.pointer (some ⟨w.heap.size, 0, none⟩), .int .i64 mm] W fun e w' => e = .returned (.string T) ∧ Below W.heap.size W w') :=
                      Lib.hid fun W hW => by
                        obtain ⟨q, hr, hq⟩ := hW.own
                        rw [hT]
                        exact peek_calls hr mm
                    clear ha2 hg2 hT
                    go_upto_region 25 with fail
                    go_cut [16, 17] (fun sy sv wx => AtMid wr wx m g2 all2 (.string T) sy sv)
                    case first =>
                      go_region_held3 (fun w' => X < w'.heap.size ∧ lb < w'.heap.size ∧ w'.cell? ⟨X, 0, none⟩ = some (.string ⟨all.toArray⟩) ∧ w'.cell? ⟨X, 1, none⟩ = some (.int .i64 g) ∧ w'.cell? ⟨X, 2, none⟩ = some (.int .i64 m) ∧ w'.cell? ⟨lb, off + i * 3 + 2, none⟩ = some (.int .i64 mm))
                        (first
                          | exact ⟨xlt, lbl, x0, x1, x2, c2⟩
                          | exact held_out xlt lbl x0 x1 x2 c2 (fun _ => False) ((Out.refl _ wr).drew.alloc _) id id
                          | exact Hq.out
                          | exact held_out Hq.out.1 Hq.out.2.1 Hq.out.2.2.1 Hq.out.2.2.2.1 Hq.out.2.2.2.2.1 Hq.out.2.2.2.2.2 (fun _ => False) ((Out.refl _ w5).alloc _) id id
                          | exact held_out Hq.out.1 Hq.out.2.1 Hq.out.2.2.1 Hq.out.2.2.2.1 Hq.out.2.2.2.2.1 Hq.out.2.2.2.2.2 (fun k => k = wr.heap.size) (out_three _ _ _ _ _) (Nat.ne_of_lt xlt) (Nat.ne_of_lt lbl))
                        (first
                          | (go_at_call 12; refine (HC.out _).mono ?_; rintro e w5 ⟨rfl, hb5⟩; have Hq := Lib.hid (held_out (And.left (by assumption)) (And.left (And.right (by assumption))) (And.left (And.right (And.right (by assumption)))) (And.left (And.right (And.right (And.right (by assumption))))) (And.left (And.right (And.right (And.right (And.right (by assumption)))))) (And.right (And.right (And.right (And.right (And.right (by assumption)))))) (fun _ => False) (Out.ofNew hb5) id id); (try (have hn : w5.heap[wr.heap.size]? = some (.cells #[.string ⟨#[]⟩, .int .i64 0, .int .i64 0] 29 (0, 0)) := (hb5.block wr.heap.size (by simp)).trans (at_newk wr.drew _ rfl); obtain ⟨n0, n1, n2⟩ := row3 hn; have f0 := at_frozen hn 0; have f1 := at_frozen hn 1; have f2 := at_frozen hn 2; clear hn))))
                      all_goals
                        go_wp2_with fail
                        go_meet
                        first
                          | exact ⟨_, rfl, rfl, mid_a hb5⟩
                          | exact ⟨_, rfl, rfl, mid_b hb5⟩
                    case rest =>
                      obtain ⟨Y, rfl, rfl, hM⟩ := hcut
                      have hP3 := HP.out.same hM.2.2
                      have d1 : wc.cell? ⟨lb, off + i * 3 + 2, none⟩ = some (.int .i64 mm) := by rw [hM.2.2.cell lbl]; exact c2
                      have HP3 := Lib.hid hP3; clear hP3 hM
                      clear x0 x1 x2
                      go_wp2_with (go_at_call 14; refine (HD.out _ HP3.out).mono ?_; rintro e w6 ⟨rfl, hb6⟩)
                      go_meet
                      exact ⟨g, all, rfl, HP3.out.same hb6, by omega⟩
                · as_aux_lemma =>
                    have hsl : s.data.toList.length = s.size := by rw [Array.length_toList]; rfl
                    have hml := HP.out.own.len
                    obtain ⟨all2, ha2⟩ : ∃ x, x = all := ⟨_, rfl⟩
                    obtain ⟨T, hT⟩ : ∃ x : ByteArray, x = ⟨((all.drop g).take (upto mm (all.drop g))).toArray⟩ := ⟨_, rfl⟩
                    obtain ⟨g2, hg2⟩ : ∃ x, x = g + upto mm (all.drop g) := ⟨_, rfl⟩
                    have hTs : T.size = upto mm (all.drop g) := by have : upto mm (all.drop g) ≤ (all.drop g).length := Nat.min_le_right _ _; rw [hT]; simp [ByteArray.size]; simp at this; omega
                    have HC : Hid (∀ W, Calls Try.prog 12 #[.agg #[.string ⟨all.toArray⟩, .int .i64 g, .int .i64 m], .int .i64 mm] W fun e w' => e = .returned (.tuple #[.agg #[.string ⟨all2.toArray⟩, .int .i64 g2, .int .i64 m], .string T]) ∧ Below W.heap.size W w') :=
                      Lib.hid fun W => by rw [ha2, hg2, hT]; exact rtake_calls all g m mm hg (by omega) W
                    have HD : Hid (∀ (G : Nat → Prop) (W : World), Owns G W w.heap.size m g (all.drop g) → (∀ k, W.heap.size ≤ k → G k) → Calls Try.prog 15 #[.pointer (some ⟨w.heap.size, 0, none⟩), .int .i64 mm] W (Does G w.heap.size m g2 (all2.drop g2) (.int .i64 T.size) W)) :=
                      Lib.hid fun G W hW hf => by rw [ha2, hg2, hTs, ← List.drop_drop]; exact own_drop hW mm (by simp; omega)
                    have hle : g2 ≤ all2.length := by rw [ha2, hg2]; have : upto mm (all.drop g) ≤ (all.drop g).length := Nat.min_le_right _ _; simp at this; omega
                    have hln : all2.length ≤ 100 * (i + 1) := by rw [ha2]; omega
                    clear ha2 hg2 hT hTs
                    go_upto_region 13 with fail
                    go_cut [18, 19] (fun sy sv wx => AtMid wr wx m g2 all2 (.string T) sy sv)
                    case first =>
                      go_region_held3 (fun w' => X < w'.heap.size ∧ lb < w'.heap.size ∧ w'.cell? ⟨X, 0, none⟩ = some (.string ⟨all.toArray⟩) ∧ w'.cell? ⟨X, 1, none⟩ = some (.int .i64 g) ∧ w'.cell? ⟨X, 2, none⟩ = some (.int .i64 m) ∧ w'.cell? ⟨lb, off + i * 3 + 2, none⟩ = some (.int .i64 mm))
                        (first
                          | exact ⟨xlt, lbl, x0, x1, x2, c2⟩
                          | exact held_out xlt lbl x0 x1 x2 c2 (fun _ => False) ((Out.refl _ wr).drew.alloc _) id id
                          | exact Hq.out
                          | exact held_out Hq.out.1 Hq.out.2.1 Hq.out.2.2.1 Hq.out.2.2.2.1 Hq.out.2.2.2.2.1 Hq.out.2.2.2.2.2 (fun _ => False) ((Out.refl _ w5).alloc _) id id
                          | exact held_out Hq.out.1 Hq.out.2.1 Hq.out.2.2.1 Hq.out.2.2.2.1 Hq.out.2.2.2.2.1 Hq.out.2.2.2.2.2 (fun k => k = wr.heap.size) (out_three _ _ _ _ _) (Nat.ne_of_lt xlt) (Nat.ne_of_lt lbl))
                        (first
                          | (go_at_call 12; refine (HC.out _).mono ?_; rintro e w5 ⟨rfl, hb5⟩; have Hq := Lib.hid (held_out (And.left (by assumption)) (And.left (And.right (by assumption))) (And.left (And.right (And.right (by assumption)))) (And.left (And.right (And.right (And.right (by assumption))))) (And.left (And.right (And.right (And.right (And.right (by assumption)))))) (And.right (And.right (And.right (And.right (And.right (by assumption)))))) (fun _ => False) (Out.ofNew hb5) id id); (try (have hn : w5.heap[wr.heap.size]? = some (.cells #[.string ⟨#[]⟩, .int .i64 0, .int .i64 0] 29 (0, 0)) := (hb5.block wr.heap.size (by simp)).trans (at_newk wr.drew _ rfl); obtain ⟨n0, n1, n2⟩ := row3 hn; have f0 := at_frozen hn 0; have f1 := at_frozen hn 1; have f2 := at_frozen hn 2; clear hn))))
                      all_goals
                        go_wp2_with fail
                        go_meet
                        first
                          | exact ⟨_, rfl, rfl, mid_a hb5⟩
                          | exact ⟨_, rfl, rfl, mid_b hb5⟩
                    case rest =>
                      obtain ⟨Y, rfl, rfl, hM⟩ := hcut
                      obtain ⟨y0, y1, y2⟩ := row3 hM.1
                      have ylt := at_lt hM.1
                      obtain ⟨hO, hX6, hYX, xlt2, hfr⟩ := HP.out.mid hM
                      have lbl2 : lb < wc.heap.size := Nat.lt_of_lt_of_le lbl hM.2.2.size
                      have d1 : wc.cell? ⟨lb, off + i * 3 + 2, none⟩ = some (.int .i64 mm) := by rw [hM.2.2.cell lbl]; exact c2
                      have lnX : lb ≠ X := fun e => by have := HP.out.hX; omega
                      have lnG : ¬ Gr w X Y lb := fun h => by have := h.1.1; omega
                      have lnY : ¬ Gr w X Y Y := fun h => h.2 rfl
                      have HOw := Lib.hid hO; clear hO
                      have HX6 := Lib.hid hX6; clear hX6
                      have HM := Lib.hid hM; clear hM
                      have HFr := Lib.hid hfr; clear hfr
                      clear x0 x1 x2
                      go_wp2_with fail
                      go_region_held3 (fun w' => w'.cell? ⟨Y, 0, none⟩ = some (.string ⟨all2.toArray⟩) ∧ w'.cell? ⟨Y, 1, none⟩ = some (.int .i64 g2) ∧ w'.cell? ⟨Y, 2, none⟩ = some (.int .i64 m) ∧ w'.cell? ⟨lb, off + i * 3 + 2, none⟩ = some (.int .i64 mm))
                        (first
                          | exact ⟨y0, y1, y2, d1⟩
                          | exact Hq.out
                          | exact held_four (Nat.lt_of_lt_of_le ylt o6.size) (Nat.lt_of_lt_of_le lbl2 o6.size) Hq.out.1 Hq.out.2.1 Hq.out.2.2.1 Hq.out.2.2.2 (fun k => k = X) (out_three _ _ _ _ _) hYX lnX)
                        (first
                          | (go_at_call 15; refine (HD.out (Gr w X Y) _ (by exact HOw.out.same ⟨rfl, rfl, rfl, Nat.le_refl _, fun _ _ => rfl⟩) (by exact HFr.out)).mono ?_; rintro e w6 ⟨rfl, h6, o6⟩; have Hq := Lib.hid (held_four ylt lbl2 y0 y1 y2 d1 (Gr w X Y) o6.ofDrew lnY lnG); have hbx := (o6.ofDrew.block X xlt2 fun h => h.1.2 rfl).trans (HX6.out.trans HP.out.box); obtain ⟨x0, x1, x2⟩ := row3 hbx; have f0 := at_frozen hbx 0; have f1 := at_frozen hbx 1; have f2 := at_frozen hbx 2; clear hbx))
                      all_goals
                        go_wp2_with fail
                        go_meet
                        exact ⟨g2, all2, rfl, play_next HP.out HM.out h6 o6.ofDrew hle, hln⟩
              case rest =>
                obtain ⟨g2, all2, rfl, hP2, hA2⟩ := hcut
                obtain ⟨x0, x1, x2⟩ := row3 hP2.box
                have d2 : wc.cell? ⟨lb, off + i * 3 + 2, none⟩ = some (.int .i64 mm) := by
                  rw [hP2.low.cell hb, ← HP.out.low.cell hb]; exact c2
                have HP2 := Lib.hid hP2; clear hP2
                clear c0 c1 c2
                go_wp2_with fail
                go_region_held3 (fun w' => w'.cell? ⟨X, 0, none⟩ = some (.string ⟨all2.toArray⟩) ∧ w'.cell? ⟨X, 1, none⟩ = some (.int .i64 g2) ∧ w'.cell? ⟨X, 2, none⟩ = some (.int .i64 m) ∧ w'.cell? ⟨lb, off + i * 3 + 2, none⟩ = some (.int .i64 mm))
                  (first
                    | exact ⟨x0, x1, x2, d2⟩
                    | exact held_four (at_lt HP2.out.box) (Nat.lt_of_lt_of_le hb HP2.out.low.size) x0 x1 x2 d2 (fun _ => False) (by exact (Out.ofNew hb6).ofDrew) id id)
                  (first
                    | (go_at_call 16; refine (same_calls (by exact HP2.out.mine.drew) mm HP2.out.hg).mono ?_; rintro e w6 ⟨rfl, hb6⟩))
                all_goals
                  have HP6 := Lib.hid (HP2.out.same (w' := w6) ⟨hb6.os, hb6.tape, hb6.output, hb6.size, hb6.block⟩)
                  clear hb6
                  go_wp2_with fail
                  go_roundw
                  case rel => exact ⟨i + 1, g2, all2, by omega, hA2, by go_num, HP6.out⟩
                  case measure => simp [intOf]; omega
            · have hbig' : (100 : Int) < (s.size : Int) := by omega
              go_wp2_with fail
              go_roundw
              case rel => exact ⟨i + 1, g, all, by omega, by omega, by go_num, HP.out⟩
              case measure => simp [intOf]; omega
        · go_wp2_with (go_at_call 6; refine (works_calls _).mono ?_; rintro e w5 ⟨rfl, hb5⟩)
          go_ret
          exact ⟨rfl, HP.out.low.trans (hb5.mono HP.out.low.size)⟩
    · have hm2 : mo < 1 ∨ 1048576 < mo := by omega
      rcases hm2 with hm2 | hm2
      · go_enter Try.func3, Try.ntmps3
        go_wp2_with (first | (go_at_call 7; refine (new_none _ (.inl hm2) _).mono ?_; rintro e w' ⟨rfl, rfl⟩) | (go_at_call 6; refine (works_calls _).mono ?_; rintro e w5 ⟨rfl, hb5⟩))
        go_ret
        exact ⟨rfl, hb5⟩
      · have hm3 : ¬ mo < 1 := by omega
        go_enter Try.func3, Try.ntmps3
        go_wp2_with (first | (go_at_call 7; refine (new_none _ (.inr hm2) _).mono ?_; rintro e w' ⟨rfl, rfl⟩) | (go_at_call 6; refine (works_calls _).mono ?_; rintro e w5 ⟨rfl, hb5⟩))
        go_ret
        exact ⟨rfl, hb5⟩
  · go_enter Try.func3, Try.ntmps3
    go_wp2_with (go_at_call 6; refine (works_calls _).mono ?_; rintro e w5 ⟨rfl, hb5⟩)
    go_ret
    exact ⟨rfl, hb5⟩
end Go.Proofs.Ytgbelgmnenbmcaa.Ring

/-
  Layer 11 (store): the law's acts in one form, and the frame of its loops.
-/
import Derived.Test.YtejhggjehmioaaaDoorStoDo5
import Derived.Test.YtejhggjehmioaaaDoorStoWorks
import Derived.Test.YtejhggjehmioaaaDoorArgs
namespace Go.Proofs.YtejhggjehmioaaaDoor.Sto
open Go.RowKit Go.Proofs.YtejhggjehmioaaaDoor.Own Go.Proofs.YtejhggjehmioaaaDoor.KM Go.Proofs.YtejhggjehmioaaaDoor.Flt
open Go.Proofs.YtejhggjehmioaaaDoor.Rw (str strs Row1 below_drew)

/-- an act -/
structure Ac where
  k : Int
  a : ByteArray
  d : ByteArray
  s : ByteArray
  m : Int
  q : Option Addr
  K : Nat
  cq : Nat
  ks : List Int
def Ac.cells (o : Ac) : Array Value := #[.int .u8 o.k, .string o.a, .string o.d, .string o.s, .int .i64 o.m, .slice o.q o.K o.cq]
structure OkA (w0 : World) (o : Ac) : Prop where
  h0 : 0 ≤ o.k
  h1 : o.k ≤ 255
  hm : -9223372036854775808 ≤ o.m ∧ o.m ≤ 9223372036854775807
  hK : o.ks.length = o.K
  row : Row1 w0 o.q o.cq (iv o.ks)
  rng : ∀ k ∈ o.ks, -9223372036854775808 ≤ k ∧ k ≤ 9223372036854775807
def Ac.fits (o : Ac) : Prop := o.a.size ≤ 100 ∧ o.d.size ≤ 100 ∧ o.s.size ≤ 100
def stepA (t : St) (o : Ac) : St :=
  if o.k % 8 = 2 then synT t o.a.data.toList
  else if o.k % 8 = 3 then renT t o.a.data.toList o.d.data.toList
  else if o.k % 8 = 4 then remT t o.a.data.toList
  else if o.k % 8 = 5 then ⟨t.L, t.most, o.m⟩
  else if o.k % 8 = 6 then crs t o.ks
  else appT t o.a.data.toList o.s.data.toList
theorem Pair.keep {w0 w : World} {bs : Nat → Prop} {b : Nat} {t : St} {p : Option Addr} {c : Nat} (P : Pair w0 w bs b t p c) {q : Option Addr} {cq : Nat} {ks : List Int} (hr : Row1 w0 q cq (iv ks)) (hg : ∀ k ∈ ks, -9223372036854775808 ≤ k ∧ k ≤ 9223372036854775807) : Keep w bs q cq ks := by
  refine ⟨hr.below P.below, hg, ?_⟩
  rcases hr.cells with h | ⟨g, o, e, hl, _⟩
  · left
    simpa [iv] using h
  · right
    intro g' o' e' hk
    have := P.mine g' hk
    rw [e] at e'
    cases e'
    omega
theorem do_act {w0 w : World} {bs : Nat → Prop} {b : Nat} {t : St} {p : Option Addr} {c : Nat} (P : Pair w0 w bs b t p c) (hT : Tab w0) {o : Ac} (hO : OkA w0 o) (hz : o.fits) (n : Nat) (hn : t.L.length = n) (hN : n ≤ 100000) :
    Calls Tryd.prog 13 #[pb b, rv p n c t.most (max 0 t.bad), .agg o.cells] w (DoPost w bs b p (stepA t o)) := by
  unfold stepA Ac.cells
  split
  · rename_i h; exact do_syn P hT n hn hN _ _ _ hz _ _ hO.h0 hO.h1 h _ _ _
  split
  · rename_i h; exact do_ren P hT n hn hN _ _ _ hz _ _ hO.h0 hO.h1 h _ _ _
  split
  · rename_i h; exact do_rem P hT n hn hN _ _ _ hz _ _ hO.h0 hO.h1 h _ _ _
  split
  · rename_i h; exact do_fail P n hn _ _ _ _ _ hO.h0 hO.h1 hO.hm h _ _ _
  split
  · rename_i h; exact do_crash P n hn hN _ _ _ _ _ hO.h0 hO.h1 h _ _ _ _ hO.hK (P.keep hO.row hO.rng)
  · rename_i h2 h3 h4 h5 h6
    exact do_app P hT n hn hN _ _ _ hz _ _ hO.h0 hO.h1 (o.k % 8) rfl (by simpa using h2) (by simpa using h3) (by simpa using h4) (by simpa using h5) (by simpa using h6) _ _ _
theorem beg_L (t : St) (a : Bs) : (begT t a).L = t.L := by unfold begT; split <;> rfl
theorem step_len (t : St) (o : Ac) : (stepA t o).L.length ≤ t.L.length + 1 := by
  have hp : ∀ L x, (fpt L x).length ≤ L.length + 1 := fun L x => pt_len L x
  have hw : ∀ L a, (fwo L a).length ≤ L.length := fun L a => wo_len L a
  unfold stepA
  split
  · unfold synT; split
    · split
      · exact hp _ _
      · omega
    · rw [beg_L]; omega
  split
  · unfold renT; split
    · split
      · exact Nat.le_trans (hp _ _) (Nat.succ_le_succ (hw _ _))
      · omega
    · rw [beg_L]; omega
  split
  · unfold remT; split
    · split
      · exact Nat.le_trans (hw _ _) (Nat.le_succ _)
      · omega
    · rw [beg_L]; omega
  split
  · exact Nat.le_succ _
  split
  · show (crsL t.L o.ks).length ≤ _
    rw [crs_len]; omega
  · unfold appT; split
    · split
      · omega
      · exact hp _ _
    · rw [beg_L]; omega

/-- the frame of a law's loop: the pair, and the box of the document's store -/
structure Fr (w0 w : World) (bs : Nat → Prop) (b : Nat) (t : St) (p : Option Addr) (c X : Nat) : Prop where
  pair : Pair w0 w bs b t p c
  box : w.heap[X]? = some (.cells #[.slice p t.L.length c, .int .i64 t.most, .int .i64 (max 0 t.bad)] 33 (0, 0))
  hX : w0.heap.size ≤ X
  nX : ¬ bs X
  pX : ∀ g o, p = some ⟨g, o, none⟩ → g ≠ X
section
variable {w0 w w' : World} {bs : Nat → Prop} {b c X : Nat} {t t' : St} {p : Option Addr}
theorem Fr.same (h : Fr w0 w bs b t p c X) (hb : Below w.heap.size w w') : Fr w0 w' bs b t p c X :=
  ⟨h.pair.same hb, (hb.block X (at_lt h.box)).trans h.box, h.hX, h.nX, h.pX⟩
/-- behind an act, before its store is laid into the box -/
theorem Fr.act (h : Fr w0 w bs b t p c X) {bs' : Nat → Prop} {p' : Option Addr} {c' : Nat} (hs : Sto w' bs' b t') (ho : Out bs w w') (hn : ∀ k, bs' k → bs k ∨ w.heap.size ≤ k) (hf : Fs w' p' c' t'.L) (hfar : Far w' bs' p') (hp : p' = p ∨ ∀ g o, p' = some ⟨g, o, none⟩ → w.heap.size ≤ g) :
    Pair w0 w' bs' b t' p' c' ∧ w'.heap[X]? = some (.cells #[.slice p t.L.length c, .int .i64 t.most, .int .i64 (max 0 t.bad)] 33 (0, 0)) ∧ ¬ bs' X ∧ (∀ g o, p' = some ⟨g, o, none⟩ → g ≠ X) ∧ Fs w' p c t.L ∧ Far w' bs' p := by
  have hlt := at_lt h.box
  refine ⟨h.pair.next hs ho hn hf hfar, (ho.block X hlt h.nX).trans h.box, fun hk => ?_, fun g o e => ?_, h.pair.fs.out ho fun g o e => (h.pair.far g o e).1, fun g o e => ⟨fun hk => ?_, Nat.lt_of_lt_of_le (h.pair.far g o e).2 ho.size⟩⟩
  · rcases hn X hk with h1 | h1
    · exact h.nX h1
    · omega
  · rcases hp with rfl | hp
    · exact h.pX g o e
    · have := hp g o e; omega
  · obtain ⟨a1, a2⟩ := h.pair.far g o e
    rcases hn g hk with h1 | h1
    · exact a1 h1
    · omega
/-- .. and behind that -/
theorem Fr.lay {x y z : Value} {p' : Option Addr} {bs' : Nat → Prop} {c' : Nat} (P : Pair w0 w bs' b t' p' c') (hb : w.heap[X]? = some (.cells #[x, y, z] 33 (0, 0))) (hX : w0.heap.size ≤ X) (nX : ¬ bs' X) (pX : ∀ g o, p' = some ⟨g, o, none⟩ → g ≠ X) :
    Fr w0 (((w.setCell ⟨X, 0, none⟩ (.slice p' t'.L.length c')).setCell ⟨X, 1, none⟩ (.int .i64 t'.most)).setCell ⟨X, 2, none⟩ (.int .i64 (max 0 t'.bad))) bs' b t' p' c' X := by
  have o1 : Out (fun k => k = X) w (((w.setCell ⟨X, 0, none⟩ (.slice p' t'.L.length c')).setCell ⟨X, 1, none⟩ (.int .i64 t'.most)).setCell ⟨X, 2, none⟩ (.int .i64 (max 0 t'.bad))) :=
    (((Out.refl (fun k => k = X) w).setCell (p := ⟨X, 0, none⟩) (fun _ => rfl) _).setCell (p := ⟨X, 1, none⟩) (fun _ => rfl) _).setCell (p := ⟨X, 2, none⟩) (fun _ => rfl) _
  refine ⟨⟨P.below.trans (o1.below P.below.size fun i e => by rw [e]; exact hX), P.sto.out o1 (fun k hk e => nX (e ▸ hk)), P.mine, P.fs.out o1 fun g o e e2 => pX g o e e2, P.far.mono o1.size⟩, ?_, hX, nX, pX⟩
  have e1 := at_set hb 0 (.slice p' t'.L.length c')
  have e2 := at_set e1 1 (.int .i64 t'.most)
  have e3 := at_set e2 2 (.int .i64 (max 0 t'.bad))
  simpa using e3
/-- .. at an act's whole -/
theorem Fr.next (h : Fr w0 w bs b t p c X) {e : Ending} (hD : DoPost w bs b p t' e w') : ∃ bs' p' c', e = .returned (.tuple #[rv p' t'.L.length c' t'.most (max 0 t'.bad), .bool true]) ∧ Below w0.heap.size w0 w' ∧ w'.heap[X]? = some (.cells #[.slice p t.L.length c, .int .i64 t.most, .int .i64 (max 0 t.bad)] 33 (0, 0)) ∧
    Fr w0 (((w'.setCell ⟨X, 0, none⟩ (.slice p' t'.L.length c')).setCell ⟨X, 1, none⟩ (.int .i64 t'.most)).setCell ⟨X, 2, none⟩ (.int .i64 (max 0 t'.bad))) bs' b t' p' c' X := by
  obtain ⟨bs', p', c', he, hs, ho, hn, hf, hfar, hp⟩ := hD
  obtain ⟨P, hb, h1, h2, -, -⟩ := h.act hs ho hn hf hfar hp
  exact ⟨bs', p', c', he, P.below, hb, Fr.lay P hb h.hX h1 h2⟩
theorem Fr.start (h : Sto w bs b t) (hb : Below w0.heap.size w0 w) (hm : ∀ k, bs k → w0.heap.size ≤ k) (h0 : t.L = []) (hbad : t.bad = 0) :
    Fr w0 (w.alloc (.cells #[.slice none 0 0, .int .i64 t.most, .int .i64 0] 33 (0, 0))) bs b t none 0 w.heap.size := by
  have k := (Below.refl w.heap.size w).alloc (Nat.le_refl _) (.cells #[.slice none 0 0, .int .i64 t.most, .int .i64 0] 33 (0, 0))
  refine ⟨⟨hb.trans (k.mono hb.size), h.below k, hm, by rw [h0]; exact Fs.empty _, fun g o e => by cases e⟩, ?_, hb.size, fun hk => ?_, fun g o e => by cases e⟩
  · rw [h0, hbad]; exact at_new _ _
  · have := h.all _ hk; omega

/-- acts that came in -/
structure AcsIn (w0 : World) (v : Value) (n : Nat) (o : Nat → Ac) : Prop where
  row : Row w0 v n 6 (fun i j => (o i).cells.getD j undef)
  ok : ∀ i, i < n → OkA w0 (o i)
end
end Go.Proofs.YtejhggjehmioaaaDoor.Sto

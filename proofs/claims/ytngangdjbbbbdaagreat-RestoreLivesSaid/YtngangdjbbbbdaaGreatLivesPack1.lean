/-
Layer 23 (restore), plain: what a crash leaves of a log, and where it begins anew.
Layer 22 (journal): a slice of acts that came in.
Layer 22 (journal): a journal of the call's own with the history of what it took; each act in one form.
Layer 22 (journal): the document's Same of any items, and Within.
Layer 11 (store): numbers that came in, opened.
Layer 22 (journal): what a law keeps beside a journal: the items that were taken, in a row of its own.
Layer 23 (restore): the law's item.
Layer 23 (restore): what is taken in a life, walked. Written by gen_rstlived.py.
Layer 23 (restore): lives that came in, opened.
Layer 23 (restore): a log from life to life.
-/
import Derived.Test.YtngangdjbbbbdaaGreatPack10
import Derived.Deep.AppendLies
import Derived.Deep.RegionHeld3
section
namespace Go.Proofs.YtngangdjbbbbdaaGreat.Rst
open Go.Proofs.YtngangdjbbbbdaaGreat.Sto Go.Proofs.YtngangdjbbbbdaaGreat.Gen Go.Proofs.YtngangdjbbbbdaaGreat.Jrn
open Go.Proofs.YtngangdjbbbbdaaGreat.Rec (Itm chk bytesOf flat)

theorem cat_in {G : Gs} {K : Nat} {x : Itm} (h : x ∈ cat G K) : ∃ i, i < K ∧ x ∈ (G i).getD [] := by
  induction K with
  | zero => cases h
  | succ K ih =>
    rcases List.mem_append.1 (show x ∈ (G K).getD [] ++ cat G K from h) with h | h
    · exact ⟨K, by omega, h⟩
    · obtain ⟨i, h1, h2⟩ := ih h
      exact ⟨i, by omega, h2⟩
/-- behind a crash: all that is there is sure; each generation tells whole items, and may end torn -/
structure Aft (t : St) (K : Nat) (G : Gs) : Prop where
  gens : ∀ i, i < K → ∃ s, cel t (nm lg (i : Nat)) = ((G i).map fun _ => (s, s.length)) ∧ ∀ l, G i = some l → (Rec.scan s).1 = l
  other : ∀ a, a ∉ ser lg K → flk t.L a = none
  chks : ∀ x ∈ cat G K, chk x = 0
  order : ∀ i, 1 ≤ i → i + 1 < K → (G (i + 1)).isSome = true → (G i).isSome = true
section
variable {t : St} {K u : Nat} {A : List Itm} {G : Gs}
theorem hist_aft (h : Hist t K A u) (hok : Ok t) (hK : 1 ≤ K) (ks : List Int) : ∃ G, Aft (crs t ks) K G := by
  obtain ⟨h1, G, m, pre, h2, h3, h4, h5, h6⟩ := h
  have hin : ∀ i l, i < K → G i = some l → ∀ x ∈ l, chk x = 0 := fun i l hi hl x hx => h1 x (by rw [h3]; exact List.mem_append_right _ (cat_mem hi hl x hx))
  have hm := h2.mle
  obtain ⟨f, hf⟩ : ∃ f, ∃ s, cel (crs t ks) lg = ((G 0).map fun _ => (s, s.length)) ∧ ∀ l, G 0 = some l → (Rec.scan s).1 = l.take f := by
    have hn := h2.new
    cases hg : G 0 with
    | none =>
      rw [hg] at hn
      rcases crs_cel hok ks lg with ⟨_, c2⟩ | ⟨l, s, j, c1, _⟩
      · exact ⟨0, [], c2, fun l h => by cases h⟩
      · rw [c1] at hn; cases hn
    | some l =>
      rw [hg] at hn hm
      rcases crs_cel hok ks lg with ⟨c1, _⟩ | ⟨l', s, j, c1, c2, c3, c4⟩
      · rw [c1] at hn; cases hn
      · rw [c1] at hn
        simp only [Option.map_some, Option.some.injEq, Prod.mk.injEq] at hn
        obtain ⟨rfl, rfl⟩ := hn
        obtain ⟨f, f1, f2, f3⟩ := scan_part (hin 0 l (by omega) hg) hm c2
        refine ⟨f, (flat l).take j, ?_, fun l' hl' => by cases hl'; exact f3⟩
        rw [c4, Option.map_some, List.length_take, Nat.min_eq_left c3]
  obtain ⟨s0, hs1, hs2⟩ := hf
  refine ⟨fun i => if i = 0 then (G 0).map (List.take f) else G i, fun i hi => ?_, fun a ha => ?_, fun x hx => ?_, fun i hi hi2 => ?_⟩
  · by_cases h0 : i = 0
    · subst h0
      refine ⟨s0, ?_, fun l hl => ?_⟩
      · rw [nm_lg0, hs1, if_pos rfl]; cases G 0 <;> rfl
      · rw [if_pos rfl] at hl
        cases hg : G 0 with
        | none => rw [hg] at hl; cases hl
        | some l0 =>
          rw [hg] at hl
          simp only [Option.map_some, Option.some.injEq] at hl
          rw [← hl]; exact hs2 l0 hg
    · obtain ⟨s, hn, hsc⟩ := h2.older i hi h0
      rw [if_neg h0]
      rcases crs_cel hok ks (nm lg (i : Nat)) with ⟨c1, c2⟩ | ⟨l', s', j, c1, c2, c3, c4⟩
      · refine ⟨s, ?_, hsc⟩
        rw [c2, ← hn, c1]
      · rw [c1] at hn
        cases hg : G i with
        | none => rw [hg] at hn; cases hn
        | some l =>
          rw [hg] at hn
          simp only [Option.map_some, Option.some.injEq, Prod.mk.injEq] at hn
          obtain ⟨rfl, rfl⟩ := hn
          have hj : j = l'.length := by omega
          subst hj
          refine ⟨l', ?_, fun l2 hl2 => by cases hl2; exact hsc l hg⟩
          rw [c4, List.take_length]; rfl
  · have := h2.other a ha
    rw [← cel_none] at this ⊢
    rcases crs_cel hok ks a with ⟨_, c2⟩ | ⟨l', s', j, c1, _⟩
    · exact c2
    · rw [this] at c1; cases c1
  · obtain ⟨i, hi, hx2⟩ := cat_in hx
    by_cases h0 : i = 0
    · subst h0
      rw [if_pos rfl] at hx2
      cases hg : G 0 with
      | none => rw [hg] at hx2; cases hx2
      | some l =>
        rw [hg] at hx2
        exact hin 0 l hi hg x (List.take_subset _ _ hx2)
    · rw [if_neg h0] at hx2
      cases hg : G i with
      | none => rw [hg] at hx2; cases hx2
      | some l => rw [hg] at hx2; exact hin i l hi hg x hx2
  · rw [if_neg (by omega), if_neg (by omega)]; exact h6 i hi hi2
theorem Aft.load (h : Aft t K G) : Jrn.load ((fnd t (ser lg K)).map Fl.bs) = cat G K :=
  load_gens K fun i hi => ⟨_, rfl, by
    obtain ⟨s, e1, e2⟩ := h.gens i hi
    rw [cel_has]
    cases hg : G i with
    | none => exact .inl ⟨by rw [e1, hg]; rfl, rfl⟩
    | some l => exact .inr ⟨l, s, by rw [e1, hg]; rfl, rfl, e2 l hg⟩⟩
theorem Aft.newest (h : Aft t K G) (hK : 1 ≤ K) : (flk t.L lg).isSome = (G 0).isSome := by
  obtain ⟨s, e1, _⟩ := h.gens 0 (by omega)
  rw [nm_lg0] at e1
  rw [← cel_is, e1]; simp
/-- there is no newest generation: all goes on as it is -/
theorem Aft.rest (h : Aft t K G) (hK : 1 ≤ K) (hs : (flk t.L lg).isSome = false) : Hist t K (cat G K) (cat G K).length := by
  rw [h.newest hK] at hs
  have hg : G 0 = none := by simpa using hs
  refine ⟨h.chks, G, 0, [], ⟨fun i hi h0 => h.gens i hi, ?_, Nat.zero_le _, h.other⟩, rfl, by rw [hg]; simp, .inl rfl, h.order⟩
  obtain ⟨s, e1, _⟩ := h.gens 0 (by omega)
  rw [nm_lg0] at e1
  rw [e1, hg]; rfl
/-- .. or it is turned on -/
theorem Aft.turn (h : Aft t K G) (hok : Ok t) (hb : ¬ 0 < t.bad) (hK : 1 ≤ K) (hK2 : K ≤ 16) (hs : (flk t.L lg).isSome = true) :
    trC t (ser lg K) = 0 ∧ Ok (trT t (ser lg K)) ∧ Hist (trT t (ser lg K)) K (cat G K) (cat G K).length := by
  rw [h.newest hK] at hs
  obtain ⟨k, rfl⟩ : ∃ k, K = k + 1 := ⟨K - 1, by omega⟩
  obtain ⟨h1, h2, h3, h4, h5⟩ := tr_cel lg k t hok hb fun i hi => lg_nm (by omega)
  refine ⟨h1, h2, h.chks, old G, 0, (G k).getD [], ⟨fun i hi h0 => ?_, ?_, Nat.zero_le _, fun a ha => ?_⟩, ?_, Nat.le_refl _, ?_, fun i hi hi2 => ?_⟩
  · obtain ⟨j, rfl⟩ : ∃ j, i = j + 1 := ⟨i - 1, by omega⟩
    rw [h3 j (by omega)]
    exact h.gens j (by omega)
  · rw [show nm lg 0 = lg from nm_lg0] at h4
    rw [h4]; rfl
  · exact cel_none.1 (by rw [h5 a ha]; exact cel_none.2 (h.other a ha))
  · rw [cat_old]; rfl
  · cases hgk : G k with
    | none => left; rfl
    | some l =>
      right
      have hd : ∀ d, d < k → (G (k - d)).isSome = true := by
        intro d
        induction d with
        | zero => intro _; rw [Nat.sub_zero, hgk]; rfl
        | succ d ih =>
          intro hd
          have := ih (by omega)
          exact h.order (k - (d + 1)) (by omega) (by omega) (by rwa [show k - (d + 1) + 1 = k - d by omega])
      intro i hi hi2
      obtain ⟨l', rfl⟩ : ∃ l, i = l + 1 := ⟨i - 1, by omega⟩
      show (G l').isSome = true
      by_cases hl : l' = 0
      · rw [hl]; exact hs
      · have := hd (k - l') (by omega)
        rwa [show k - (k - l') = l' by omega] at this
  · intro ho
    obtain ⟨l, rfl⟩ : ∃ l, i = l + 1 := ⟨i - 1, by omega⟩
    show (G l).isSome = true
    change (G (l + 1)).isSome = true at ho
    by_cases hl : l = 0
    · rw [hl]; exact hs
    · exact h.order l (by omega) (by omega) ho
end
end Go.Proofs.YtngangdjbbbbdaaGreat.Rst
end

section
namespace Go.Proofs.YtngangdjbbbbdaaGreat.Jrn
open Go.RowKit Go.Proofs.YtngangdjbbbbdaaGreat.Own

structure Oc where
  k : Int
  xk : Int
  xa : Int
  xb : ByteArray
  n : Int
structure OkO (o : Oc) : Prop where
  k0 : 0 ≤ o.k
  k1 : o.k ≤ 255
  n0 : 0 ≤ o.n
  n1 : o.n ≤ 255
  size : o.xb.size ≤ maxLen
/-- a slice of acts, as it lies in memory -/
structure ORow (w : World) (p : Option Addr) (c n : Nat) (f : Nat → Oc) : Prop where
  cap : n ≤ c
  max : c ≤ maxLen
  cells : n = 0 ∨ ∃ g o, p = some ⟨g, o, none⟩ ∧ g < w.heap.size ∧ ∀ i, i < n → w.cell? ⟨g, o + i * 5, none⟩ = some (.int .u8 (f i).k) ∧ w.cell? ⟨g, o + i * 5 + 1, none⟩ = some (.int .i64 (f i).xk) ∧ w.cell? ⟨g, o + i * 5 + 2, none⟩ = some (.int .i64 (f i).xa) ∧ w.cell? ⟨g, o + i * 5 + 3, none⟩ = some (.string (f i).xb) ∧ w.cell? ⟨g, o + i * 5 + 4, none⟩ = some (.int .u8 (f i).n)
  ok : ∀ i, i < n → OkO (f i)
theorem ORow.below {w w' : World} {p : Option Addr} {cap n : Nat} {f : Nat → Oc} (h : ORow w p cap n f) (hb : Below w.heap.size w w') : ORow w' p cap n f :=
  ⟨h.cap, h.max, h.cells.imp id fun ⟨g, o, e, hl, k⟩ => ⟨g, o, e, Nat.lt_of_lt_of_le hl hb.size, fun i hi => by
    obtain ⟨k0, k1, k2, k3, k4⟩ := k i hi
    exact ⟨(hb.cell (p := ⟨g, _, none⟩) hl).trans k0, (hb.cell (p := ⟨g, _, none⟩) hl).trans k1, (hb.cell (p := ⟨g, _, none⟩) hl).trans k2, (hb.cell (p := ⟨g, _, none⟩) hl).trans k3, (hb.cell (p := ⟨g, _, none⟩) hl).trans k4⟩⟩, h.ok⟩
section
open Go.ChangeShapes Go.WideShapes Go.Deep
variable {H : Type} {enc : TypeId × Value → H} {w : World} {spare : Nat → Bool} {held : Bool}
theorem cInt : Tryz.prog.cellsOf 3 = 1 := by kernel_rfl
theorem cU8 : Tryz.prog.cellsOf 5 = 1 := by kernel_rfl
theorem cStr : Tryz.prog.cellsOf 9 = 1 := by kernel_rfl
theorem cItm : Tryz.prog.cellsOf 42 = 3 := by kernel_rfl
theorem cOp : Tryz.prog.cellsOf 107 = 5 := by kernel_rfl
theorem oc_leaf {m base : Nat} {y : DataW H × List MemPlace} {E : Nat → Value} (hy : DataW.trod enc Tryz.prog w base spare held m 107 ((List.range 5).map E) = some y) : ∃ o : Oc, OkO o ∧ E 0 = .int .u8 o.k ∧ E 1 = .int .i64 o.xk ∧ E 2 = .int .i64 o.xa ∧ E 3 = .string o.xb ∧ E 4 = .int .u8 o.n := by
  obtain ⟨m0, y0, h0⟩ := leaf_field Tryz.underlying107 hy 0 _ rfl 0 1 rfl cU8 (by omega)
  obtain ⟨m1, y1, h1⟩ := leaf_field Tryz.underlying107 hy 1 _ rfl 1 3 rfl cItm (by omega)
  obtain ⟨m2, y2, h2⟩ := leaf_field Tryz.underlying107 hy 2 _ rfl 4 1 rfl cU8 (by omega)
  obtain ⟨m3, y3, h3⟩ := leaf_field (E := fun k => E (1 + k)) Tryz.underlying42 h1 0 _ rfl 0 1 rfl cInt (by omega)
  obtain ⟨m4, y4, h4⟩ := leaf_field (E := fun k => E (1 + k)) Tryz.underlying42 h1 1 _ rfl 1 1 rfl cInt (by omega)
  obtain ⟨m5, y5, h5⟩ := leaf_field (E := fun k => E (1 + k)) Tryz.underlying42 h1 2 _ rfl 2 1 rfl cStr (by omega)
  obtain ⟨k, e0, w8⟩ := leaf_int Tryz.underlying5 h0
  obtain ⟨n, e4, w8n⟩ := leaf_int Tryz.underlying5 h2
  obtain ⟨xk, e1, _⟩ := leaf_int Tryz.underlying3 h3
  obtain ⟨xa, e2, _⟩ := leaf_int Tryz.underlying3 h4
  obtain ⟨xb, e3, ws⟩ := leaf_string Tryz.underlying9 h5
  exact ⟨⟨k, xk, xa, xb, n⟩, ⟨(wf8 w8).1, (wf8 w8).2, (wf8 w8n).1, (wf8 w8n).2, ws⟩, by simpa using e0, by simpa using e1, by simpa using e2, by simpa using e3, by simpa using e4⟩
set_option maxRecDepth 100000 in
theorem ocs_open {v : Value} {d : DataW H} {p : List MemPlace} {base b0 : Nat} {r : Reach} (ho : Value.okWide Tryz.prog w r b0 57 v) (h : DataW.Trod enc Tryz.prog w base spare held 57 v d p) :
    ∃ q n c f, v = .slice q n c ∧ ORow w q c n f := by
  obtain ⟨a, len, cap, rfl⟩ := okWide_slice Tryz.underlying57 ho
  obtain ⟨n, E, hrow, mm, hE⟩ := Own.args_slice Tryz.underlying57 (size := 5) cOp (by omega) h ⟨_, _, _, rfl⟩
  have hz : ∀ i, ∃ o : Oc, i < n → OkO o ∧ E i 0 = .int .u8 o.k ∧ E i 1 = .int .i64 o.xk ∧ E i 2 = .int .i64 o.xa ∧ E i 3 = .string o.xb ∧ E i 4 = .int .u8 o.n := fun i => by
    by_cases hi : i < n
    · obtain ⟨y, hy⟩ := hE i hi
      obtain ⟨o, ho⟩ := oc_leaf hy
      exact ⟨o, fun _ => ho⟩
    · exact ⟨⟨0, 0, 0, ByteArray.empty, 0⟩, fun h => absurd h hi⟩
  obtain ⟨a2, cap2, e, h1, h2, h3⟩ := hrow
  cases e
  refine ⟨a, len, cap, fun i => (hz i).choose, rfl, h1, h2, ?_, fun i hi => ((hz i).choose_spec hi).1⟩
  refine h3.imp id ?_
  rintro ⟨g, off, e, hl, hc⟩
  refine ⟨g, off, e, hl, fun i hi => ?_⟩
  obtain ⟨_, e0, e1, e2, e3, e4⟩ := (hz i).choose_spec hi
  have c0 := hc i 0 hi (by omega)
  have c1 := hc i 1 hi (by omega)
  have c2 := hc i 2 hi (by omega)
  have c3 := hc i 3 hi (by omega)
  have c4 := hc i 4 hi (by omega)
  rw [e0] at c0
  rw [e1] at c1
  rw [e2] at c2
  rw [e3] at c3
  rw [e4] at c4
  exact ⟨by simpa using c0, c1, c2, c3, c4⟩
end
end Go.Proofs.YtngangdjbbbbdaaGreat.Jrn
end

section
namespace Go.Proofs.YtngangdjbbbbdaaGreat.Jrn
open Go.RowKit Go.Proofs.YtngangdjbbbbdaaGreat.Own Go.Proofs.YtngangdjbbbbdaaGreat.Sto Go.Proofs.YtngangdjbbbbdaaGreat.Gen Go.Proofs.YtngangdjbbbbdaaGreat.Flt
open Go.Proofs.YtngangdjbbbbdaaGreat.Rec (Itm chk bytesOf flat cv cv_len cv_app)
open Go.Proofs.YtngangdjbbbbdaaGreat.Rw (str strs Row1 Texts)

structure Hs (w0 w : World) (bs : Nat → Prop) (j b : Nat) (t : St) (K : Nat) (size : Int) (r : Bool) (l : Int) (A : List Itm) (u : Nat) : Prop where
  wj : Wj w0 w bs j b t lg (K : Nat) size r l
  hist : Hist t K A u
  ule : u ≤ A.length
def gapI (l now : Int) : Itm := ⟨3, now, ⟨(Digit.dec l).toArray⟩⟩
/-- what is taken as it is opened again -/
def gapL (l now : Int) : List Itm := if 0 < l then [gapI l now] else []
theorem gap_ok {l now : Int} (h1 : 0 ≤ l) (h2 : l ≤ 1000000) (h3 : 0 ≤ now) (h4 : now ≤ 1099511627776) : chk (gapI l now) = 0 := by
  have := Digit.dec_len (n := l) (by omega) (by omega)
  exact Rec.chk_ok.2 ⟨by show (1 : Int) ≤ 3; omega, by show (3 : Int) ≤ 15; omega, h3, h4, by show (Digit.dec l).length ≤ 4096; omega⟩
structure Sz (K : Nat) (size : Int) : Prop where
  k0 : 1 ≤ K
  k1 : K ≤ 16
  s0 : 64 ≤ size
  s1 : size ≤ 1048576
theorem Sz.held {K : Nat} {size : Int} (h : Sz K size) : held (K : Nat) = K := by have := h.k0; have := h.k1; unfold Gen.held; omega
section
variable {w0 w w' : World} {bs : Nat → Prop} {j b K : Nat} {t : St} {size : Int} {r : Bool} {l : Int} {A : List Itm} {u : Nat}
theorem Hs.same (h : Hs w0 w bs j b t K size r l A u) (hb : Below w.heap.size w w') : Hs w0 w' bs j b t K size r l A u := ⟨h.wj.same hb, h.hist, h.ule⟩
theorem Hs.below (h : Hs w0 w bs j b t K size r l A u) : Below w0.heap.size w0 w := h.wj.below
theorem Hs.ok (h : Hs w0 w bs j b t K size r l A u) : Ok t := h.wj.jat.sto.ok
def AddP (w0 : World) (j b K : Nat) (size : Int) (r : Bool) (l : Int) (A : List Itm) (u : Nat) (x : Itm) (e : Ending) (w' : World) : Prop :=
  ∃ q bs' t', e = .returned (.bool q) ∧ ((q = true ∧ r = false ∧ Hs w0 w' bs' j b t' K size false l (A ++ [x]) u) ∨ (q = false ∧ Hs w0 w' bs' j b t' K size true (l + 1) A u))
theorem add_hs (h : Hs w0 w bs j b t K size r l A u) (hz : Sz K size) (l0 : 0 ≤ l) (l1 : l ≤ 1000000) (k a : Int) (s : ByteArray) (hx : chk ⟨k, a, s⟩ = 0) :
    Calls Tryz.prog 36 #[pb j, .agg #[.int .i64 k, .int .i64 a, .string s]] w (AddP w0 j b K size r l A u ⟨k, a, s⟩) := by
  have hput := h.hist.put h.ule h.ok hz.k0 hz.k1 hx size
  cases r with
  | true =>
    refine (add_rest h.wj.jat l0 l1 k a s hx).mono fun e w' hp => ?_
    obtain ⟨he, bs', hw⟩ := h.wj.post hp
    exact ⟨false, bs', t, he, .inr ⟨rfl, hw, h.hist, h.ule⟩⟩
  | false =>
    by_cases hc : putC t lg K size (bytesOf ⟨k, a, s⟩) = 0
    · refine (add_ok h.wj.jat (by decide) hz.s0 hz.s1 l0 l1 k a s hx (by rw [hz.held]; exact hc)).mono fun e w' hp => ?_
      rw [hz.held] at hp
      obtain ⟨he, bs', hw⟩ := h.wj.post hp
      exact ⟨true, bs', _, he, .inl ⟨rfl, rfl, hw, hput.1 hc, by have := h.ule; rw [List.length_append]; omega⟩⟩
    · refine (add_no h.wj.jat (by decide) hz.s0 hz.s1 l0 l1 k a s hx (by rw [hz.held]; exact hc)).mono fun e w' hp => ?_
      rw [hz.held] at hp
      obtain ⟨he, bs', hw⟩ := h.wj.post hp
      exact ⟨false, bs', _, he, .inr ⟨rfl, hw, hput.2 hc, h.ule⟩⟩
def SyncP (w0 : World) (j b K : Nat) (size : Int) (r : Bool) (l : Int) (A : List Itm) (u : Nat) (e : Ending) (w' : World) : Prop :=
  ∃ q bs' t', e = .returned (.bool q) ∧ ((q = true ∧ r = false ∧ Hs w0 w' bs' j b t' K size false l A A.length) ∨ (q = false ∧ Hs w0 w' bs' j b t' K size true l A u))
theorem sync_hs (h : Hs w0 w bs j b t K size r l A u) (hz : Sz K size) :
    Calls Tryz.prog 37 #[pb j] w (SyncP w0 j b K size r l A u) := by
  cases r with
  | true =>
    refine (sync_rest h.wj.jat).mono fun e w' hp => ?_
    obtain ⟨he, bs', hw⟩ := h.wj.post hp
    exact ⟨false, bs', t, he, .inr ⟨rfl, hw, h.hist, h.ule⟩⟩
  | false =>
    by_cases hc : synC t lg = 0
    · refine (sync_ok h.wj.jat hc).mono fun e w' hp => ?_
      obtain ⟨he, bs', hw⟩ := h.wj.post hp
      exact ⟨true, bs', _, he, .inl ⟨rfl, rfl, hw, h.hist.syn h.ok hz.k0 hc, Nat.le_refl _⟩⟩
    · by_cases hc7 : synC t lg = 7
      · refine (sync_none h.wj.jat hc7).mono fun e w' hp => ?_
        obtain ⟨he, bs', hw⟩ := h.wj.post hp
        exact ⟨true, bs', _, he, .inl ⟨rfl, rfl, hw, h.hist.gone hc7, Nat.le_refl _⟩⟩
      · refine (sync_no h.wj.jat ⟨hc, hc7⟩).mono fun e w' hp => ?_
        obtain ⟨he, bs', hw⟩ := h.wj.post hp
        exact ⟨false, bs', _, he, .inr ⟨rfl, hw, h.hist.same (syn_no hc), h.ule⟩⟩
def ReopP (w0 : World) (j b K : Nat) (size : Int) (r : Bool) (l : Int) (A : List Itm) (u : Nat) (now : Int) (e : Ending) (w' : World) : Prop :=
  ∃ q bs' t', e = .returned (.bool q) ∧ ((q = true ∧ Hs w0 w' bs' j b t' K size false 0 (A ++ gapL l now) u) ∨ (q = false ∧ 0 < l ∧ Hs w0 w' bs' j b t' K size r l A u))
theorem reopen_hs (h : Hs w0 w bs j b t K size r l A u) (hz : Sz K size) (l0 : 0 ≤ l) (l1 : l ≤ 1000000) (now : Int) (h3 : 0 ≤ now) (h4 : now ≤ 1099511627776) :
    Calls Tryz.prog 52 #[pb j, .int .i64 now] w (ReopP w0 j b K size r l A u now) := by
  by_cases hl : 0 < l
  · have hx := gap_ok l0 l1 h3 h4
    have hput := h.hist.put h.ule h.ok hz.k0 hz.k1 hx size
    have eT : jpT t lg (held (K : Nat)) size ⟨3, now, ⟨(Digit.dec l).toArray⟩⟩ = putT t lg K size (bytesOf (gapI l now)) := by rw [hz.held]; exact if_pos hx
    have eC : jpC t lg (held (K : Nat)) size ⟨3, now, ⟨(Digit.dec l).toArray⟩⟩ = putC t lg K size (bytesOf (gapI l now)) := by rw [hz.held]; exact if_pos hx
    have eg : gapL l now = [gapI l now] := if_pos hl
    by_cases hc : putC t lg K size (bytesOf (gapI l now)) = 0
    · refine (reopen_ok h.wj.jat (by decide) hz.s0 hz.s1 hl l1 now (by rw [eC]; exact hc)).mono fun e w' hp => ?_
      rw [eT] at hp
      obtain ⟨he, bs', hw⟩ := h.wj.post hp
      exact ⟨true, bs', _, he, .inl ⟨rfl, hw, by rw [eg]; exact hput.1 hc, by have := h.ule; rw [List.length_append]; omega⟩⟩
    · refine (reopen_no h.wj.jat (by decide) hz.s0 hz.s1 hl l1 now (by rw [eC]; exact hc)).mono fun e w' hp => ?_
      rw [eT] at hp
      obtain ⟨he, bs', hw⟩ := h.wj.post hp
      exact ⟨false, bs', _, he, .inr ⟨rfl, hl, hw, hput.2 hc, h.ule⟩⟩
  · have eg : gapL l now = [] := if_neg hl
    refine (reopen_none h.wj.jat (by omega) now).mono fun e w' hp => ?_
    obtain ⟨he, bs', hw⟩ := h.wj.post hp
    exact ⟨true, bs', _, he, .inl ⟨rfl, hw, by rw [eg, List.append_nil]; exact h.hist, by rw [eg, List.append_nil]; exact h.ule⟩⟩
def FailP (w0 : World) (j b K : Nat) (size : Int) (r : Bool) (l : Int) (A : List Itm) (u : Nat) (e : Ending) (w' : World) : Prop :=
  e = .returned (.tuple #[]) ∧ ∃ bs' t', Hs w0 w' bs' j b t' K size r l A u
theorem fail_hs (h : Hs w0 w bs j b t K size r l A u) (n : Int) (hn : -9223372036854775808 ≤ n ∧ n ≤ 9223372036854775807) :
    Calls Tryz.prog 54 #[pb b, .int .i64 n] w (FailP w0 j b K size r l A u) :=
  (sto_fail h.wj.jat.sto n hn).mono fun _ _ ⟨he, hs, ho⟩ => ⟨he, bs, _, h.wj.go hs ho (fun _ hk => .inl hk), h.hist.same rfl, h.ule⟩
theorem all_hs (h : Hs w0 w bs j b t K size r l A u) (hz : Sz K size) : Calls Tryz.prog 63 #[pb b, .string ⟨#[108, 111, 103]⟩, .int .i64 (K : Nat)] w (ListPost ((fnd t (ser lg K)).map Fl.bs) w) := by
  have := all_calls h.wj.jat.sto lg (by decide) (K : Nat)
  rw [hz.held] at this
  exact this
theorem fnd_size {t : St} (h : Ok t) (ns : List Bs) : ∀ s ∈ (fnd t ns).map Fl.bs, s.length ≤ 16777216 := by
  intro s hs
  obtain ⟨x, hx, rfl⟩ := List.mem_map.1 hs
  unfold fnd at hx
  obtain ⟨a, _, ha⟩ := List.mem_filterMap.1 hx
  have h1 := len_tot (lk_some ha).1
  have := (tot_top h).2
  omega
theorem fnd_16 (t : St) (K : Nat) (hK : K ≤ 16) : ((fnd t (ser lg K)).map Fl.bs).length ≤ 16 := by
  rw [List.length_map]
  have := fnd_len t (ser lg K)
  rw [ser_len] at this
  omega
end
end Go.Proofs.YtngangdjbbbbdaaGreat.Jrn
end

section
namespace Go.Proofs.YtngangdjbbbbdaaGreat.Jrn
open Go.RowKit Go.Proofs.YtngangdjbbbbdaaGreat.Own Go.Proofs.YtngangdjbbbbdaaGreat.Sto Go.Proofs.YtngangdjbbbbdaaGreat.Gen Go.Proofs.YtngangdjbbbbdaaGreat.Flt
open Go.Proofs.YtngangdjbbbbdaaGreat.Rec (Itm chk bytesOf flat cv cv_len cv_app Its)

def eqIt (x y : Itm) : Bool := x.k == y.k && (x.a == y.a && x.b.toList == y.b.toList)
theorem itm_neq (x y : Itm) : ∀ W, (binOp .neq 42 (.agg #[.int .i64 x.k, .int .i64 x.a, .string x.b]) (.agg #[.int .i64 y.k, .int .i64 y.a, .string y.b])).run Tryz.prog W = .ok (.bool (!eqIt x y)) W := by
  intro W
  unfold eqIt
  simp [go_sem]
  repeat' split
  all_goals simp [*]
def SmPost (xs ys : List Itm) (w : World) (e : Ending) (w' : World) : Prop := ∃ v, e = .returned (.bool v) ∧ (xs = ys → v = true) ∧ Below w.heap.size w w'
set_option maxRecDepth 100000 in
set_option maxHeartbeats 4000000 in
/-- as many items, of which some differ -/
theorem rsame_no (xs ys : List Itm) (n : Nat) (hx : xs.length = n) (hy : ys.length = n) (hne : xs ≠ ys) (p q : Option Addr) (c d : Nat) (w : World) (h1 : Its w xs p c) (h2 : Its w ys q d) :
    Calls Tryz.prog 10 #[.slice p n c, .slice q n d] w (SmPost xs ys w) := by
  have hc1 := h1.cap
  have hm1 := h1.max
  unfold maxLen at hm1
  have q2 : (n : Int) ≤ 9223372036854775807 := by omega
  have H1 := Lib.hid h1
  have H2 := Lib.hid h2
  have HX := Lib.hid hx
  have HY := Lib.hid hy
  have HF := Lib.hid (show ∀ (v : Bool) (W : World), Below w.heap.size w W → SmPost xs ys w (.returned (.bool v)) W from fun v W hb => ⟨v, rfl, fun e => absurd e hne, hb⟩)
  clear h1 h2 hx hy hne
  go_enter Tryz.func10, Tryz.ntmps10
  go_wp2_with fail
  go_loopw [5] (fun i wr => ∃ k m : Nat, k ≤ n ∧ i = .int .i64 k ∧ wr = w.drewN m) (fun i _ => n - (intOf i).toNat)
  case atStart => exact ⟨0, 0, by omega, rfl, rfl⟩
  case round =>
    obtain ⟨k, m, hk, rfl, rfl⟩ := hrel
    rcases Nat.lt_or_eq_of_le hk with hlt | rfl
    · rcases H1.out.cells with h0 | ⟨b, o, rfl, hb, hc⟩
      · rw [← HX.out, h0] at hlt; simp at hlt
      · rcases H2.out.cells with h0 | ⟨b', o', rfl, hb', hc'⟩
        · rw [← HY.out, h0] at hlt; simp at hlt
        · obtain ⟨c0, c1, c2⟩ := hc k (by rw [HX.out]; exact hlt)
          obtain ⟨d0, d1, d2⟩ := hc' k (by rw [HY.out]; exact hlt)
          have q1 : (k : Int) < (n : Int) := by omega
          generalize xs[k]'(by rw [HX.out]; exact hlt) = x at *
          generalize ys[k]'(by rw [HY.out]; exact hlt) = y at *
          have hq := itm_neq x y
          generalize eqIt x y = q at *
          clear hc hc'
          cases q with
          | true =>
            rw [Bool.not_true] at hq
            go_wp2_with fail
            go_quiet (fail)
            go_wp2_with fail
            go_roundw
            case rel => exact ⟨k + 1, _, by omega, by go_num, rfl⟩
            case measure => simp [intOf]; omega
          | false =>
            rw [Bool.not_false] at hq
            go_wp2_with fail
            go_quiet (fail)
            go_wp2_with fail
            go_ret
            exact HF.out _ _ ⟨rfl, rfl, rfl, Nat.le_refl _, fun _ _ => rfl⟩
    · go_wp2_with fail
      go_ret
      exact HF.out _ _ ⟨rfl, rfl, rfl, Nat.le_refl _, fun _ _ => rfl⟩
theorem same_any (xs ys : List Itm) (n : Nat) (hx : xs.length = n) (hy : ys.length = n) (p q : Option Addr) (c d : Nat) (w : World) (h1 : Its w xs p c) (h2 : Its w ys q d) :
    Calls Tryz.prog 10 #[.slice p n c, .slice q n d] w (SmPost xs ys w) := by
  by_cases he : xs = ys
  · subst he hx
    exact (Rec.rsame_calls xs p q c d w h1 h2).mono fun e w' h => ⟨true, h.1, fun _ => rfl, h.2⟩
  · exact rsame_no xs ys n hx hy he p q c d w h1 h2
/-- items out of the middle -/
theorem cut_mid (p : Option Addr) (xs : List Itm) (c k m : Nat) (hk : k + m ≤ xs.length) (hc : xs.length ≤ c) (W : World) :
    (Instr.sliceAt 29 (.slice p xs.length c) (some (.int .i64 (k : Int))) (some (.int .i64 ((k + m : Nat) : Int))) none).run Tryz.prog W = .ok (sliced p k (k + m) c 3) W := by
  have ht : Tryz.prog.underlying 29 = some (.slice (Tryz.prog.elem 29)) := by kernel_rfl
  have he : Tryz.prog.elem 29 = 42 := by kernel_rfl
  obtain ⟨i0, hi, hz0, hz1, hz2⟩ := info_parts Rec.info_item
  rw [run_sliceAt_slice W _ _ _ _ _ ht, run_slice_lh W _ _ _ _ ht .i64 .i64 _ _ (by omega) (by omega) (by omega), he]
  have hs : (sizeOf 42).run Tryz.prog W = .ok 3 W := by simp [sizeOf, typeInfo, hi, hz1]
  rw [hs]
  simp only [Result.andThen, Int.toNat_natCast]
theorem its_mid {w : World} {xs : List Itm} {p : Option Addr} {c k m : Nat} (h : Its w xs p c) (hk : k + m ≤ xs.length) : ∃ q d, sliced p k (k + m) c 3 = .slice q m d ∧ Its w ((xs.drop k).take m) q d := by
  have hcap := h.cap
  have hmax := h.max
  have hl : ((xs.drop k).take m).length = m := by rw [List.length_take, List.length_drop]; omega
  refine ⟨if c = k then p else p.map (·.add (k * 3)), c - k, by unfold sliced; rw [show k + m - k = m by omega], by rw [hl]; omega, by omega, ?_⟩
  by_cases hm : m = 0
  · left; subst hm; simp
  · rcases h.cells with rfl | ⟨b, o, rfl, hb, hc⟩
    · simp at hk; omega
    · refine .inr ⟨b, o + k * 3, by rw [if_neg (by omega)]; simp [Addr.add], hb, fun i hi => ?_⟩
      rw [hl] at hi
      have := hc (k + i) (by omega)
      have e : ((xs.drop k).take m)[i]'(by rw [hl]; exact hi) = xs[k + i]'(by omega) := by simp
      rw [e, show o + k * 3 + i * 3 = o + (k + i) * 3 by omega]
      exact this

set_option maxRecDepth 100000 in
set_option maxHeartbeats 4000000 in
theorem within_calls (l row : List Itm) (nl nr : Nat) (hl : nl = l.length) (hr : nr = row.length) (n : Int) (n0 : 0 ≤ n) (n1 : n ≤ 1000) (hn : nr ≤ 1000) (k0 : Nat) (h1 : k0 + nl ≤ nr) (h2 : n ≤ k0 + nl) (h3 : (row.drop k0).take nl = l)
    (p q : Option Addr) (c d : Nat) (w : World) (hI : Its w l p c) (hR : Its w row q d) :
    Calls Tryz.prog 21 #[.slice p nl c, .slice q nr d, .int .i64 n] w fun e w' => e = .returned (.bool true) ∧ Below w.heap.size w w' := by
  have HI := Lib.hid hI
  have HR := Lib.hid hR
  have HL := Lib.hid hl
  have HN := Lib.hid hr
  have H3 := Lib.hid h3
  have hc1 := hI.cap
  have hc2 := hR.cap
  have hm1 := hI.max
  have hm2 := hR.max
  rw [← hl] at hc1
  rw [← hr] at hc2
  unfold maxLen at hm1 hm2
  clear hI hR hl hr h3
  go_enter Tryz.func21, Tryz.ntmps21
  go_wp2_with fail
  go_loopw [7] (fun i wr => ∃ k : Nat, k ≤ k0 ∧ i = .int .i64 k ∧ Below w.heap.size w wr) (fun i _ => k0 + 1 - (intOf i).toNat)
  case atStart => exact ⟨0, Nat.zero_le _, rfl, Below.refl _ _⟩
  case round =>
    obtain ⟨k, hk, rfl, hb⟩ := hrel
    rename World => wr
    have HB := Lib.hid hb
    have HIr := Lib.hid (HI.out.kept hb)
    have HRr := Lib.hid (HR.out.kept hb)
    clear hb
    have q1 : (k : Int) ≤ (nr : Int) - (nl : Int) := by omega
    have q3 : k + nl ≤ nr := by omega
    by_cases hge : n ≤ (k : Int) + (nl : Int)
    · have hcm := fun W => cut_mid q row d k nl (by rw [← HN.out]; exact q3) (by rw [← HN.out]; exact hc2) W
      obtain ⟨q2, d2, e2, hI2⟩ := its_mid HRr.out (k := k) (m := nl) (by rw [← HN.out]; exact q3)
      rw [e2, ← HN.out] at hcm
      have hcm2 : ∀ W, (Instr.sliceAt 29 (.slice q nr d) (some (.int .i64 (k : Int))) (some (.int .i64 ((k : Int) + (nl : Int)))) none).run Tryz.prog W = .ok (.slice q2 nl d2) W := fun W => by have := hcm W; rwa [Int.natCast_add] at this
      have HSA := Lib.hid (same_any l _ nl HL.out.symm (by rw [List.length_take, List.length_drop, ← HN.out]; omega) p q2 c d2 wr HIr.out hI2)
      clear hcm e2 hI2
      go_wp2_with fail
      refine HSA.out.mono ?_
      rintro e w5 ⟨v, rfl, hv, hb5⟩
      have HB5 := Lib.hid (HB.out.trans (hb5.mono HB.out.size))
      clear hb5
      cases v with
      | true =>
        clear hv
        go_wp2_with fail
        go_ret
        exact ⟨rfl, HB5.out⟩
      | false =>
        have hne : k ≠ k0 := fun e => by
          subst e
          exact absurd (hv H3.out.symm) (by decide)
        clear hv
        go_wp2_with fail
        go_roundw
        case rel => exact ⟨k + 1, by omega, by go_num, HB5.out⟩
        case measure => simp [intOf]; omega
    · have hne : k ≠ k0 := fun e => by omega
      go_wp2_with fail
      go_roundw
      case rel => exact ⟨k + 1, by omega, by go_num, HB.out⟩
      case measure => simp [intOf]; omega
end Go.Proofs.YtngangdjbbbbdaaGreat.Jrn
end

section
namespace Go.Proofs.YtngangdjbbbbdaaGreat.Sto
open Go.RowKit Go.Proofs.YtngangdjbbbbdaaGreat.Own Go.ChangeShapes Go.WideShapes Go.Deep
open Go.Proofs.YtngangdjbbbbdaaGreat.Rw (str strs Row1)

def toI : Value → Int
  | .int _ n => n
  | _ => 0
section
variable {H : Type} {enc : TypeId × Value → H} {w : World} {base : Nat} {spare : Nat → Bool} {held : Bool}
theorem cInt : Tryz.prog.cellsOf 3 = 1 := by kernel_rfl
/-- a slice of numbers -/
theorem ints_arg {v : Value} {d : DataW H} {p : List MemPlace} (h : DataW.Trod enc Tryz.prog w base spare held 58 v d p) (hv : ∃ a n cap, v = .slice a n cap) :
    ∃ q K cq ks, v = .slice q K cq ∧ ks.length = K ∧ Row1 w q cq (iv ks) ∧ ∀ k ∈ ks, -9223372036854775808 ≤ k ∧ k ≤ 9223372036854775807 := by
  obtain ⟨n, E, ⟨a, cap, rfl, h1, h2, h3⟩, m, hE⟩ := args_slice Tryz.underlying58 (size := 1) cInt (by omega) h hv
  have hz : ∀ i, i < n → ∃ x, E i 0 = .int .i64 x ∧ -9223372036854775808 ≤ x ∧ x ≤ 9223372036854775807 := fun i hi => by
    obtain ⟨y, hy⟩ := hE i hi
    obtain ⟨x, ex, hw⟩ := leaf_int Tryz.underlying3 hy
    exact ⟨x, ex, wf64 hw⟩
  refine ⟨a, n, cap, (List.range n).map fun i => toI (E i 0), rfl, by simp, ⟨by simpa [iv] using h1, h2, ?_⟩, fun k hk => ?_⟩
  · rcases h3 with h0 | ⟨g, off, rfl, hl, hc⟩
    · left; subst h0; rfl
    · refine .inr ⟨g, off, rfl, hl, fun i x hx => ?_⟩
      have hi : i < n := by
        have := (List.getElem?_eq_some_iff.1 hx).1
        simpa [iv] using this
      obtain ⟨z, ez, _⟩ := hz i hi
      have hc0 := hc i 0 hi (by omega)
      rw [Nat.mul_one, Nat.add_zero] at hc0
      rw [hc0, ez]
      simp [iv, hi, ez, toI] at hx
      rw [← hx]
  · simp only [List.mem_map, List.mem_range] at hk
    obtain ⟨i, hi, rfl⟩ := hk
    obtain ⟨z, ez, hz2⟩ := hz i hi
    rw [ez]
    exact hz2
set_option maxRecDepth 100000 in
theorem ints_open {v : Value} (t : ∃ d p, DataW.Trod enc Tryz.prog w base spare held 58 v d p) {r : Reach} (o : ∃ base, Value.okWide Tryz.prog w r base 58 v) :
    ∃ q K cq ks, v = .slice q K cq ∧ ks.length = K ∧ Row1 w q cq (iv ks) ∧ ∀ k ∈ ks, -9223372036854775808 ≤ k ∧ k ≤ 9223372036854775807 := by
  obtain ⟨d, p, t⟩ := t
  obtain ⟨b0, o⟩ := o
  exact ints_arg t (okWide_slice Tryz.underlying58 o)
end
end Go.Proofs.YtngangdjbbbbdaaGreat.Sto
end

section
namespace Go.Proofs.YtngangdjbbbbdaaGreat.Jrn
open Go.RowKit Go.Proofs.YtngangdjbbbbdaaGreat.Own Go.Proofs.YtngangdjbbbbdaaGreat.Sto Go.Proofs.YtngangdjbbbbdaaGreat.Gen Go.Proofs.YtngangdjbbbbdaaGreat.Flt
open Go.Proofs.YtngangdjbbbbdaaGreat.Rec (Itm chk bytesOf flat cv cv_len cv_app Its)
open Go.Proofs.YtngangdjbbbbdaaGreat.Rw (str strs Row1 Texts)
open Go.Proofs.YtngangdjbbbbdaaGreat.Tree (own_slice own_lt own_out grown_out)

/-- what a call of a journal's may write -/
def Mv (w : World) (bs : Nat → Prop) (j : Nat) (w' : World) (bs' : Nat → Prop) : Prop := Out (fun k => bs k ∨ k = j) w w' ∧ ∀ i, bs' i → bs i ∨ w.heap.size ≤ i
section
variable {w0 w w' : World} {bs bs' : Nat → Prop} {j b K : Nat} {t t' : St} {size : Int} {r r' : Bool} {l l' : Int} {A D : List Itm} {u : Nat} {v : Value}
theorem Wj.move {q : Bool} {e : Ending} {base : Bs} {n : Int} (h : Wj w0 w bs j b t base n size r l) (hp : JPost w bs j b base n size t' r' l' q e w') : e = .returned (.bool q) ∧ ∃ bs', Mv w bs j w' bs' ∧ Wj w0 w' bs' j b t' base n size r' l' := by
  obtain ⟨he, bs', h1, h2, h3⟩ := hp
  have hs := h.below.size
  refine ⟨he, bs', ⟨h2, h3⟩, h.below.trans (h2.below hs fun i hi => ?_), h1, fun k hk => ?_, h.jm⟩
  · rcases hi with hi | rfl
    · exact h.mine i hi
    · exact h.jm
  · rcases h3 k hk with h4 | h4
    · exact h.mine k h4
    · omega
theorem Hs.out (h : Hs w0 w bs j b t K size r l A u) {S : Nat → Prop} (ho : Out S w w') (hS : ∀ k, S k → ¬ bs k ∧ k ≠ j ∧ w0.heap.size ≤ k) : Hs w0 w' bs j b t K size r l A u :=
  ⟨⟨h.wj.below.trans (ho.below h.wj.below.size fun i hi => (hS i hi).2.2), ⟨h.wj.jat.sto.out ho fun k hk hs => (hS k hs).1 hk, h.wj.jat.jb.out ho fun hs => (hS j hs).2.1 rfl, h.wj.jat.far⟩, h.wj.mine, h.wj.jm⟩, h.hist, h.ule⟩
def AddO (w0 w : World) (bs : Nat → Prop) (j b K : Nat) (size : Int) (r : Bool) (l : Int) (A : List Itm) (u : Nat) (x : Itm) (e : Ending) (w' : World) : Prop :=
  ∃ q bs' t', e = .returned (.bool q) ∧ Mv w bs j w' bs' ∧ ((q = true ∧ r = false ∧ Hs w0 w' bs' j b t' K size false l (A ++ [x]) u) ∨ (q = false ∧ Hs w0 w' bs' j b t' K size true (l + 1) A u))
theorem add_ho (h : Hs w0 w bs j b t K size r l A u) (hz : Sz K size) (l0 : 0 ≤ l) (l1 : l ≤ 1000000) (k a : Int) (s : ByteArray) (hx : chk ⟨k, a, s⟩ = 0) :
    Calls Tryz.prog 36 #[pb j, .agg #[.int .i64 k, .int .i64 a, .string s]] w (AddO w0 w bs j b K size r l A u ⟨k, a, s⟩) := by
  have hput := h.hist.put h.ule h.ok hz.k0 hz.k1 hx size
  cases r with
  | true =>
    refine (add_rest h.wj.jat l0 l1 k a s hx).mono fun e w' hp => ?_
    obtain ⟨he, bs', hv, hw⟩ := h.wj.move hp
    exact ⟨false, bs', t, he, hv, .inr ⟨rfl, hw, h.hist, h.ule⟩⟩
  | false =>
    by_cases hc : putC t lg K size (bytesOf ⟨k, a, s⟩) = 0
    · refine (add_ok h.wj.jat (by decide) hz.s0 hz.s1 l0 l1 k a s hx (by rw [hz.held]; exact hc)).mono fun e w' hp => ?_
      rw [hz.held] at hp
      obtain ⟨he, bs', hv, hw⟩ := h.wj.move hp
      exact ⟨true, bs', _, he, hv, .inl ⟨rfl, rfl, hw, hput.1 hc, by have := h.ule; rw [List.length_append]; omega⟩⟩
    · refine (add_no h.wj.jat (by decide) hz.s0 hz.s1 l0 l1 k a s hx (by rw [hz.held]; exact hc)).mono fun e w' hp => ?_
      rw [hz.held] at hp
      obtain ⟨he, bs', hv, hw⟩ := h.wj.move hp
      exact ⟨false, bs', _, he, hv, .inr ⟨rfl, hw, hput.2 hc, h.ule⟩⟩
def SyncO (w0 w : World) (bs : Nat → Prop) (j b K : Nat) (size : Int) (r : Bool) (l : Int) (A : List Itm) (u : Nat) (e : Ending) (w' : World) : Prop :=
  ∃ q bs' t', e = .returned (.bool q) ∧ Mv w bs j w' bs' ∧ ((q = true ∧ r = false ∧ Hs w0 w' bs' j b t' K size false l A A.length) ∨ (q = false ∧ Hs w0 w' bs' j b t' K size true l A u))
theorem sync_ho (h : Hs w0 w bs j b t K size r l A u) (hz : Sz K size) :
    Calls Tryz.prog 37 #[pb j] w (SyncO w0 w bs j b K size r l A u) := by
  cases r with
  | true =>
    refine (sync_rest h.wj.jat).mono fun e w' hp => ?_
    obtain ⟨he, bs', hv, hw⟩ := h.wj.move hp
    exact ⟨false, bs', t, he, hv, .inr ⟨rfl, hw, h.hist, h.ule⟩⟩
  | false =>
    by_cases hc : synC t lg = 0
    · refine (sync_ok h.wj.jat hc).mono fun e w' hp => ?_
      obtain ⟨he, bs', hv, hw⟩ := h.wj.move hp
      exact ⟨true, bs', _, he, hv, .inl ⟨rfl, rfl, hw, h.hist.syn h.ok hz.k0 hc, Nat.le_refl _⟩⟩
    · by_cases hc7 : synC t lg = 7
      · refine (sync_none h.wj.jat hc7).mono fun e w' hp => ?_
        obtain ⟨he, bs', hv, hw⟩ := h.wj.move hp
        exact ⟨true, bs', _, he, hv, .inl ⟨rfl, rfl, hw, h.hist.gone hc7, Nat.le_refl _⟩⟩
      · refine (sync_no h.wj.jat ⟨hc, hc7⟩).mono fun e w' hp => ?_
        obtain ⟨he, bs', hv, hw⟩ := h.wj.move hp
        exact ⟨false, bs', _, he, hv, .inr ⟨rfl, hw, h.hist.same (syn_no hc), h.ule⟩⟩
def ReopO (w0 w : World) (bs : Nat → Prop) (j b K : Nat) (size : Int) (r : Bool) (l : Int) (A : List Itm) (u : Nat) (now : Int) (e : Ending) (w' : World) : Prop :=
  ∃ q bs' t', e = .returned (.bool q) ∧ Mv w bs j w' bs' ∧ ((q = true ∧ Hs w0 w' bs' j b t' K size false 0 (A ++ gapL l now) u) ∨ (q = false ∧ 0 < l ∧ Hs w0 w' bs' j b t' K size r l A u))
theorem reopen_ho (h : Hs w0 w bs j b t K size r l A u) (hz : Sz K size) (l0 : 0 ≤ l) (l1 : l ≤ 1000000) (now : Int) (h3 : 0 ≤ now) (h4 : now ≤ 1099511627776) :
    Calls Tryz.prog 52 #[pb j, .int .i64 now] w (ReopO w0 w bs j b K size r l A u now) := by
  by_cases hl : 0 < l
  · have hx := gap_ok l0 l1 h3 h4
    have hput := h.hist.put h.ule h.ok hz.k0 hz.k1 hx size
    have eT : jpT t lg (held (K : Nat)) size ⟨3, now, ⟨(Digit.dec l).toArray⟩⟩ = putT t lg K size (bytesOf (gapI l now)) := by rw [hz.held]; exact if_pos hx
    have eC : jpC t lg (held (K : Nat)) size ⟨3, now, ⟨(Digit.dec l).toArray⟩⟩ = putC t lg K size (bytesOf (gapI l now)) := by rw [hz.held]; exact if_pos hx
    have eg : gapL l now = [gapI l now] := if_pos hl
    by_cases hc : putC t lg K size (bytesOf (gapI l now)) = 0
    · refine (reopen_ok h.wj.jat (by decide) hz.s0 hz.s1 hl l1 now (by rw [eC]; exact hc)).mono fun e w' hp => ?_
      rw [eT] at hp
      obtain ⟨he, bs', hv, hw⟩ := h.wj.move hp
      exact ⟨true, bs', _, he, hv, .inl ⟨rfl, hw, by rw [eg]; exact hput.1 hc, by have := h.ule; rw [List.length_append]; omega⟩⟩
    · refine (reopen_no h.wj.jat (by decide) hz.s0 hz.s1 hl l1 now (by rw [eC]; exact hc)).mono fun e w' hp => ?_
      rw [eT] at hp
      obtain ⟨he, bs', hv, hw⟩ := h.wj.move hp
      exact ⟨false, bs', _, he, hv, .inr ⟨rfl, hl, hw, hput.2 hc, h.ule⟩⟩
  · have eg : gapL l now = [] := if_neg hl
    refine (reopen_none h.wj.jat (by omega) now).mono fun e w' hp => ?_
    obtain ⟨he, bs', hv, hw⟩ := h.wj.move hp
    exact ⟨true, bs', _, he, hv, .inl ⟨rfl, hw, by rw [eg, List.append_nil]; exact h.hist, by rw [eg, List.append_nil]; exact h.ule⟩⟩
def FailO (w0 w : World) (bs : Nat → Prop) (j b K : Nat) (size : Int) (r : Bool) (l : Int) (A : List Itm) (u : Nat) (e : Ending) (w' : World) : Prop :=
  e = .returned (.tuple #[]) ∧ ∃ bs' t', Mv w bs j w' bs' ∧ Hs w0 w' bs' j b t' K size r l A u
theorem fail_ho (h : Hs w0 w bs j b t K size r l A u) (n : Int) (hn : -9223372036854775808 ≤ n ∧ n ≤ 9223372036854775807) :
    Calls Tryz.prog 54 #[pb b, .int .i64 n] w (FailO w0 w bs j b K size r l A u) :=
  (sto_fail h.wj.jat.sto n hn).mono fun _ _ ⟨he, hs, ho⟩ => ⟨he, bs, _, ⟨ho.mono (fun _ _ h => .inl h), fun _ hk => .inl hk⟩, h.wj.go hs ho (fun _ hk => .inl hk), h.hist.same rfl, h.ule⟩

/-- a journal, and beside it the items D in a row of the law's own -/
structure TnS (w0 w : World) (bs : Nat → Prop) (j b : Nat) (t : St) (K : Nat) (size : Int) (r : Bool) (l : Int) (A : List Itm) (u : Nat) (D : List Itm) (v : Value) : Prop where
  hs : Hs w0 w bs j b t K size r l A u
  own : w.ownsRow w0.heap.size 42 3 v D.length (cv D)
  far : ∀ g, v.ownBlock = some g → ¬ bs g ∧ g ≠ j
theorem TnS.same (h : TnS w0 w bs j b t K size r l A u D v) (hb : Below w.heap.size w w') : TnS w0 w' bs j b t K size r l A u D v := ⟨h.hs.same hb, own_below h.own hb, h.far⟩
theorem TnS.move {A' : List Itm} {u' : Nat} (h : TnS w0 w bs j b t K size r l A u D v) (hv : Mv w bs j w' bs') (hs : Hs w0 w' bs' j b t' K size r' l' A' u') : TnS w0 w' bs' j b t' K size r' l' A' u' D v := by
  refine ⟨hs, own_out h.own hv.1 fun k hk hS => ?_, fun g hg => ⟨fun hb => ?_, (h.far g hg).2⟩⟩
  · rcases hS with hS | hS
    · exact (h.far k hk).1 hS
    · exact (h.far k hk).2 hS
  · rcases hv.2 g hb with h1 | h1
    · exact (h.far g hg).1 h1
    · have := (own_lt h.own hg).2; omega
/-- one more is appended -/
theorem TnS.app {w5 w1 : World} {x : Itm} {g cap n : Nat} (h : TnS w0 w bs j b t K size r l A u D v) (hb : Below w.heap.size w w5) (hn : n = D.length) (ho : w1.ownsRow w0.heap.size 42 3 (.slice (some ⟨g, 0, none⟩) (n + 1) cap) (n + 1) (cv D ++ [.int .i64 x.k, .int .i64 x.a, .string x.b]))
    (hg : w5.grownBy w1 v.ownBlock) (hat : v.ownBlock = some g ∨ g = w5.heap.size) : TnS w0 w1 bs j b t K size r l A u (D ++ [x]) (.slice (some ⟨g, 0, none⟩) (n + 1) cap) := by
  subst hn
  have h5 := h.same hb
  refine ⟨h5.hs.out (grown_out hg) fun k hk => ⟨(h.far k hk).1, (h.far k hk).2, (own_lt h.own hk).1⟩, by rw [List.length_append, cv_app]; exact ho, fun g' hg' => ?_⟩
  obtain rfl : g = g' := by simpa [Value.ownBlock] using hg'
  rcases hat with h1 | rfl
  · exact h.far g h1
  · refine ⟨fun hb5 => ?_, fun e => ?_⟩
    · have := h5.hs.wj.jat.sto.all _ hb5; omega
    · have := at_lt h5.hs.wj.jat.jb.box; omega
theorem item_new (w : World) (x y z : Value) (T : TypeId) : ∀ j u, [x, y, z][j]? = some u → (w.alloc (.cells #[x, y, z] T (0, 0))).cell? ((⟨w.heap.size, 0, none⟩ : Addr).add j) = some u := fun j u hu => three_new w x y z T w.heap.size rfl _ rfl j u hu
theorem item_drew (w : World) (x y z : Value) (T : TypeId) : ∀ j u, [x, y, z][j]? = some u → (w.alloc (.cells #[x, y, z] T (0, 0))).drew.cell? ((⟨w.heap.size, 0, none⟩ : Addr).add j) = some u := fun j u hu => three_new w x y z T w.heap.size rfl _ rfl j u hu
/-- what is read of all generations lies within -/
theorem TnS.within (h : TnS w0 w bs j b t K size r l A u A v) (hK : 1 ≤ K) : ∃ k0, k0 + (load ((fnd t (ser lg K)).map Fl.bs)).length = A.length ∧ (A.drop k0).take (load ((fnd t (ser lg K)).map Fl.bs)).length = load ((fnd t (ser lg K)).map Fl.bs) := by
  obtain ⟨pre, h1, _⟩ := h.hs.hist.all hK
  generalize load ((fnd t (ser lg K)).map Fl.bs) = X at *
  exact ⟨pre.length, by rw [h1, List.length_append], by rw [h1, List.drop_left, List.take_length]⟩
theorem TnS.torn (h : TnS w0 w bs j b t K size r l A u A v) (hK : 1 ≤ K) (ks : List Int) : ∃ k0, k0 + (load ((fnd (crs t ks) (ser lg K)).map Fl.bs)).length ≤ A.length ∧ u ≤ k0 + (load ((fnd (crs t ks) (ser lg K)).map Fl.bs)).length ∧ (A.drop k0).take (load ((fnd (crs t ks) (ser lg K)).map Fl.bs)).length = load ((fnd (crs t ks) (ser lg K)).map Fl.bs) := by
  obtain ⟨pre, post, h1, h2⟩ := h.hs.hist.crash h.hs.ok hK ks
  generalize load ((fnd (crs t ks) (ser lg K)).map Fl.bs) = X at *
  have hl : A.length = pre.length + X.length + post.length := by rw [h1, List.length_append, List.length_append]
  exact ⟨pre.length, by omega, by omega, by rw [h1, List.append_assoc, List.drop_left, List.take_left]⟩
end
theorem keep_of {w wr : World} {bs : Nat → Prop} {q : Option Addr} {c : Nat} {ks : List Int} (h : Row1 w q c (iv ks)) (hr : ∀ k ∈ ks, -9223372036854775808 ≤ k ∧ k ≤ 9223372036854775807) (hb : Below w.heap.size w wr) (hm : ∀ k, bs k → w.heap.size ≤ k) : Keep wr bs q c ks := by
  refine ⟨h.below hb, hr, ?_⟩
  rcases h.cells with h0 | ⟨g, o, e, hl, _⟩
  · left; simpa [iv] using h0
  · right
    intro g' o' e' hg
    rw [e] at e'
    cases e'
    have := hm _ hg
    omega
/-- append onto a row of one's own, whose block is told -/
theorem append_lies {P : Program} {w : World} {ops : Array Oper} {rest : List Oper} {o : Oper} {a : Act} {Q : Exit → Act → World → Prop} (hgd : o.guard = none) (s x : Operand) (t : TypeId)
    (ho : o.op = .call { callee := .builtin .append, args := #[s, x], argTypes := #[t, t] })
    (base : Nat) (e : TypeId) (i : TypeInfo) (z : Value) (size bytes : Nat) (ht : P.underlying t = some (.slice e)) (hi : P.info? e = some i) (hz : i.zero = some z)
    (hsize : i.size = size) (hby : i.bytes = bytes) (hzs : z.cells.size = size) (hsz : 0 < size)
    (v : Value) (n : Nat) (xs : List Value) (hs : a.eval s = v) (hown : w.ownsRow base e size v n xs)
    (ad : Addr) (m c : Nat) (news : List Value) (hx : a.eval x = .slice (some ad) m c) (hl : news.length = m * size) (hnews : ∀ j u, news[j]? = some u → w.cell? (ad.add j) = some u) (h1 : ∀ u ∈ news, u.oneCell' = true)
    (hm : 0 < m) (h63 : n + m ≤ maxLen) (hbytes : (n + m) * bytes ≤ 140737488355328) (hbase : base ≤ w.heap.size)
    (h : ∀ g cap w', w'.ownsRow base e size (.slice (some ⟨g, 0, none⟩) (n + m) cap) (n + m) (xs ++ news) → w.grownBy w' v.ownBlock → (v.ownBlock = some g ∨ g = w.heap.size) → g < w'.heap.size → wpList P ops Q rest (a.put o.dst (.slice (some ⟨g, 0, none⟩) (n + m) cap)) w') : wpList P ops Q (o :: rest) a w :=
  wpList_plain hgd fun _ hK => wp_append_lies w s x t ho base e i z size bytes ht hi hz hsize hby hzs hsz v n xs hs hown ad m c news hx hl hnews h1 hm h63 hbytes hbase w.heap.size rfl fun g cap w' a b c d => hK _ _ (h g cap w' a b c d)
end Go.Proofs.YtngangdjbbbbdaaGreat.Jrn
end

section
namespace Go.Proofs.YtngangdjbbbbdaaGreat.Jrn
open Go.RowKit Go.Proofs.YtngangdjbbbbdaaGreat.Own Go.Proofs.YtngangdjbbbbdaaGreat.Sto Go.Proofs.YtngangdjbbbbdaaGreat.Gen Go.Proofs.YtngangdjbbbbdaaGreat.Flt
open Go.Proofs.YtngangdjbbbbdaaGreat.Rec (Itm chk bytesOf flat cv cv_len cv_app)
open Go.Proofs.YtngangdjbbbbdaaGreat.Rw (str strs Row1 Texts)
open Go.Proofs.YtngangdjbbbbdaaGreat.Tree (own_slice own_lt)

/-! ### fine -/
/-- the greater, the smaller of two -/
def hiI (x y : Int) : Int := if x < y then y else x
def loI (x y : Int) : Int := if y < x then y else x
def fineI (k a : Int) (b : ByteArray) : Itm := ⟨1 + hiI 0 (k.tmod 2), hiI 0 (loI a 1099511627776), b.extract 0 (loI (b.size : Int) 60).toNat⟩
theorem fine_ok (k a : Int) (b : ByteArray) : chk (fineI k a b) = 0 ∧ ((fineI k a b).k = 1 ∨ (fineI k a b).k = 2) := by
  have h1 : (fineI k a b).k = 1 ∨ (fineI k a b).k = 2 := by
    have h : k.tmod 2 = -1 ∨ k.tmod 2 = 0 ∨ k.tmod 2 = 1 := by
      rcases Int.lt_or_le k 0 with h | h
      · rw [show k = -(-k) by omega, Int.neg_tmod, Int.tmod_eq_emod_of_nonneg (by omega)]; omega
      · rw [Int.tmod_eq_emod_of_nonneg h]; omega
    unfold fineI hiI
    simp only
    split <;> omega
  refine ⟨Rec.chk_ok.2 ?_, h1⟩
  have h2 : (fineI k a b).b.size ≤ 60 := by unfold fineI loI; simp only [ByteArray.size_extract]; split <;> omega
  have h3 : 0 ≤ (fineI k a b).a ∧ (fineI k a b).a ≤ 1099511627776 := by unfold fineI hiI loI; simp only; (repeat' split) <;> omega
  omega
def set3 (W : World) (X : Nat) (x y z : Value) : World := ((W.drew.setCell ⟨X, 0, none⟩ x).setCell ⟨X, 1, none⟩ y).setCell ⟨X, 2, none⟩ z
theorem set3_out (W : World) (X : Nat) (x y z : Value) : Out (fun k => k = X) W (set3 W X x y z) :=
  ((((Out.refl (fun k => k = X) W).drew).setCell (p := ⟨X, 0, none⟩) (fun _ => rfl) _).setCell (p := ⟨X, 1, none⟩) (fun _ => rfl) _).setCell (p := ⟨X, 2, none⟩) (fun _ => rfl) _
theorem set3_at {W : World} {X : Nat} {x0 y0 z0 x y z : Value} {T : TypeId} (h : W.heap[X]? = some (.cells #[x0, y0, z0] T (0, 0))) : (set3 W X x y z).heap[X]? = some (.cells #[x, y, z] T (0, 0)) := by
  have e1 := at_set (w := W.drew) h 0 x
  have e2 := at_set e1 1 y
  have e3 := at_set e2 2 z
  unfold set3
  simpa using e3
set_option maxRecDepth 100000 in
set_option maxHeartbeats 4000000 in
theorem fine_calls (k a : Int) (b : ByteArray) (hb : b.size ≤ maxLen) (w : World) :
    Calls Tryz.prog 50 #[.agg #[.int .i64 k, .int .i64 a, .string b]] w fun e w' => e = .returned (.agg #[.int .i64 (fineI k a b).k, .int .i64 (fineI k a b).a, .string (fineI k a b).b]) ∧ Below w.heap.size w w' := by
  unfold maxLen at hb
  have HX := Lib.hid (at_new w (.cells #[.int .i64 k, .int .i64 a, .string b] 42 (0, 0)))
  go_enter Tryz.func50, Tryz.ntmps50
  go_wp2_with fail
  have HB := Lib.hid (((Below.refl w.heap.size w).alloc (Nat.le_refl _) (.cells #[.int .i64 k, .int .i64 a, .string b] 42 (0, 0))).alloc (by simp) (.cells #[.int .i64 0, .int .i64 0, .string ⟨#[]⟩] 42 (0, 0)))
  have HZ : Hid (((w.alloc (.cells #[.int .i64 k, .int .i64 a, .string b] 42 (0, 0))).alloc (.cells #[.int .i64 0, .int .i64 0, .string ⟨#[]⟩] 42 (0, 0))).heap[w.heap.size + 1]? = some (.cells #[.int .i64 0, .int .i64 0, .string ⟨#[]⟩] 42 (0, 0))) := Lib.hid (by have := at_new (w.alloc (.cells #[.int .i64 k, .int .i64 a, .string b] 42 (0, 0))) (.cells #[.int .i64 0, .int .i64 0, .string ⟨#[]⟩] 42 (0, 0)); simpa using this)
  have HX2 := Lib.hid (at_old _ (.cells #[.int .i64 0, .int .i64 0, .string ⟨#[]⟩] 42 (0, 0)) HX.out)
  generalize (w.alloc (.cells #[.int .i64 k, .int .i64 a, .string b] 42 (0, 0))).alloc (.cells #[.int .i64 0, .int .i64 0, .string ⟨#[]⟩] 42 (0, 0)) = W at *
  obtain ⟨g1, hg1⟩ : ∃ g1, w.heap.size = g1 := ⟨_, rfl⟩
  rw [hg1] at HX HB HZ HX2 ⊢
  have HG := Lib.hid hg1
  obtain ⟨x0, x1, x2⟩ := Rec.box3 HX2.out
  have z0 := at_cell HZ.out 0
  have z1 := at_cell HZ.out 1
  have z2 := at_cell HZ.out 2
  have f0 := at_frozen HZ.out 0
  have f1 := at_frozen HZ.out 1
  have f2 := at_frozen HZ.out 2
  have lt := at_lt HZ.out
  have hcut : ∀ W, (Instr.sliceAt 9 (.string b) none (some (.int .i64 (if 60 < (b.size : Int) then 60 else (b.size : Int)))) none).run Tryz.prog W = .ok (.string (fineI k a b).b) W := fun W => Sum.cut_to 9 Tryz.underlying9 b (loI (b.size : Int) 60) (by unfold loI; split <;> omega) (by unfold loI; split <;> omega) W
  have hk : IntKind.i64.wrap (1 + if 0 < k.tmod 2 then k.tmod 2 else 0) = (fineI k a b).k := by
    have h1 := (fine_ok k a b).2
    show IntKind.i64.wrap (fineI k a b).k = _
    exact IntWalk.i64_in _ (by omega)
  have ha : (if 0 < (if 1099511627776 < a then 1099511627776 else a) then (if 1099511627776 < a then 1099511627776 else a) else 0) = (fineI k a b).a := rfl
  have hcut2 : ∀ W, (Instr.sliceAt 9 (.string b) none (some (.int .i64 (min (b.size : Int) 60))) none).run Tryz.prog W = .ok (.string (fineI k a b).b) W := fun W => by
    have := hcut W
    rwa [show (if 60 < (b.size : Int) then (60 : Int) else (b.size : Int)) = min (b.size : Int) 60 by split <;> omega] at this
  have hk2 : IntKind.i64.wrap (1 + max 0 (k.tmod 2)) = (fineI k a b).k := by
    rw [← hk, show max 0 (k.tmod 2) = (if 0 < k.tmod 2 then k.tmod 2 else 0) by split <;> omega]
  have ha2 : max 0 (min a 1099511627776) = (fineI k a b).a := by
    show _ = hiI 0 (loI a 1099511627776)
    unfold hiI loI
    (repeat' split) <;> omega
  obtain ⟨fi, hfi⟩ : ∃ fi, fineI k a b = fi := ⟨_, rfl⟩
  rw [hfi] at hk ha hcut hcut2 hk2 ha2
  have HFI := Lib.hid hfi
  have HROW := Lib.hid (set3_at (x := .int .i64 fi.k) (y := .int .i64 fi.a) (z := .string fi.b) HZ.out)
  have HOUT := Lib.hid (set3_out W (g1 + 1) (.int .i64 fi.k) (.int .i64 fi.a) (.string fi.b))
  have HGL := Lib.hid (show g1 ≤ W.heap.size from by have := HB.out.size; omega)
  clear hfi hg1
  go_still_tail 17, (by kernel_rfl)
  try rw [ha]
  try rw [ha2]
  change wpList _ _ _ _ _ W.drew
  go_wp2_with fail
  all_goals
    refine bodyPost_ret (results_cell_row rfl _ _ (g1 + 1) _ #[.int .i64 fi.k, .int .i64 fi.a, .string fi.b] _ _ rfl HROW.out Tryz.underlying42 rfl (by kernel_rfl)) rfl ?_
    refine ⟨by rw [HFI.out], ?_⟩
    rw [HG.out]
    exact HB.out.trans (HOUT.out.below HGL.out (fun i hi => by omega))
end Go.Proofs.YtngangdjbbbbdaaGreat.Jrn
end

section
namespace Go.Proofs.YtngangdjbbbbdaaGreat.Jrn
open Go.RowKit Go.Proofs.YtngangdjbbbbdaaGreat.Own Go.Proofs.YtngangdjbbbbdaaGreat.Sto Go.Proofs.YtngangdjbbbbdaaGreat.Gen Go.Proofs.YtngangdjbbbbdaaGreat.Flt
open Go.Proofs.YtngangdjbbbbdaaGreat.Rec (Itm chk bytesOf flat cv cv_len cv_app Its)
open Go.Proofs.YtngangdjbbbbdaaGreat.Rw (str strs Row1 Texts)

def LvPost (w : World) (j b K : Nat) (size : Int) (n0 : Nat) (e : Ending) (w' : World) : Prop :=
  ∃ (bs : Nat → Prop) (t : St) (r : Bool) (l : Int) (A : List Itm) (u na ca : Nat) (pa : Option Addr), e = .returned (.tuple #[.slice pa na ca, .int .i64 u]) ∧ na = A.length ∧ na ≤ n0 + 30 ∧ TnS w w' bs j b t K size r l A u A (.slice pa na ca)
set_option maxRecDepth 100000 in
set_option maxHeartbeats 64000000 in
theorem lived_walk (w V0 : World) (bs0 : Nat → Prop) (j b : Nat) (t0 : St) (K : Nat) (size : Int) (A0 : List Itm) (pa0 : Option Addr) (ca0 na0 : Nat) (h0 : TnS w V0 bs0 j b t0 K size false 0 A0 A0.length A0 (.slice pa0 na0 ca0)) (hna0 : na0 = A0.length) (hna2 : na0 ≤ 500) (hsz : Sz K size)
    (p0 : Option Addr) (c0 n0 : Nat) (f : Nat → Oc) (hF : ORow w p0 c0 n0 f) :
    Calls Tryz.prog 23 #[pb b, pb j, .slice p0 n0 c0, .slice pa0 na0 ca0] V0 (LvPost w j b K size na0) := by
  obtain ⟨i0, hi, hi0, hi1, hi2⟩ := info_parts Rec.info_item
  have hcap := hF.cap
  have hmax := hF.max
  unfold maxLen at hmax
  have HF := Lib.hid hF
  have HZ := Lib.hid hsz
  have L0 := Lib.hid h0
  have HNA0 := Lib.hid hna0
  obtain ⟨_, _, ea, hca1, hca2⟩ := Tree.own_slice h0.own
  simp only [Value.slice.injEq] at ea
  obtain ⟨rfl, -, rfl⟩ := ea
  rw [← hna0] at hca1
  unfold maxLen at hca2
  clear hF hsz h0 hna0
  go_enter Tryz.func23, Tryz.ntmps23
  go_wp2_with fail
  go_loopw [3, 10, 11] (fun av sv i wr => ∃ (k : Nat) (bs : Nat → Prop) (t : St) (r : Bool) (l : Int) (A : List Itm) (u na ca : Nat) (pa : Option Addr), k ≤ n0 ∧ k ≤ 30 ∧ i = .int .i64 k ∧ sv = .int .i64 u ∧ av = .slice pa na ca ∧ na = A.length ∧ 0 ≤ l ∧ l ≤ k ∧ na ≤ na0 + k ∧ TnS w wr bs j b t K size r l A u A av) (fun _ _ i _ => n0 - (intOf i).toNat)
  case atStart => exact ⟨0, bs0, _, false, 0, A0, A0.length, na0, _, _, Nat.zero_le _, by omega, rfl, by rw [← HNA0.out], rfl, HNA0.out, Int.le_refl _, by omega, Nat.le_refl _, L0.out⟩
  case round =>
    obtain ⟨k, bs, t, r, l, A, u, na, ca, pa, hk, hk30, rfl, rfl, rfl, hna, l0, hlk, hnk, C⟩ := hrel
    rename World => wr
    have L1 := Lib.hid C
    have HNA := Lib.hid hna
    have hl60 : l ≤ 60 := by omega
    have hna60 : na ≤ 600 := by omega
    obtain ⟨_, _, ea, hca1, hca2⟩ := Tree.own_slice C.own
    simp only [Value.slice.injEq] at ea
    obtain ⟨rfl, -, rfl⟩ := ea
    rw [← hna] at hca1
    unfold maxLen at hca2
    clear C L0 hna
    by_cases hend : k < n0 ∧ k < 30
    · obtain ⟨hlt, hlt30⟩ := hend
      have q1 : (k : Int) < (n0 : Int) := by omega
      have q30 : (k : Int) < 30 := by omega
      have HFb := HF.out.below L1.out.hs.below
      have hok := HFb.ok k hlt
      rcases HFb.cells with h0 | ⟨g, o, rfl, hg, hc⟩
      · omega
      obtain ⟨d0, d1, d2, d3, d4⟩ := hc k hlt
      have HN := Lib.hid (show ∀ W, Below wr.heap.size wr W → W.cell? ⟨g, o + k * 5, none⟩ = some (.int .u8 (f k).k) ∧ W.cell? ⟨g, o + k * 5 + 4, none⟩ = some (.int .u8 (f k).n) from fun W hb => ⟨(hb.cell (p := ⟨g, _, none⟩) hg).trans d0, (hb.cell (p := ⟨g, _, none⟩) hg).trans d4⟩)
      clear HFb hc d0 d4
      generalize f k = oc at *
      obtain ⟨hk0, hk1, hn0, hn1, hsz⟩ := hok
      obtain ⟨ok, oxk, oxa, oxb, on⟩ := oc
      simp only at hk0 hk1 hn0 hn1 hsz d1 d2 d3 HN
      have HFI := Lib.hid fun W => fine_calls oxk oxa oxb hsz W
      obtain ⟨hf1, hf2⟩ := fine_ok oxk oxa oxb
      generalize fineI oxk oxa oxb = x at *
      obtain ⟨fk, fa, fb⟩ := x
      have HF1 := Lib.hid hf1
      obtain ⟨_, _, fa0, fa1, _⟩ := Rec.chk_ok.1 hf1
      simp only at fa0 fa1 HFI
      clear hf1 hf2 hsz
      go_wp2_with fail
      refine (HFI.out _).mono ?_
      rintro e w5 ⟨rfl, hb5⟩
      have BX := Lib.hid (hb5.alloc hb5.size (.cells #[.int .i64 fk, .int .i64 fa, .string fb] 42 (0, 0)))
      have HXB := Lib.hid (at_new w5 (.cells #[.int .i64 fk, .int .i64 fa, .string fb] 42 (0, 0)))
      obtain ⟨d0, -⟩ := HN.out _ BX.out
      have HGX := Lib.hid (show ¬ (bs w5.heap.size ∨ w5.heap.size = j) from fun h => by
        have L5 := (L1.out.same hb5).hs.wj.jat
        rcases h with h | h
        · have := L5.sto.all _ h; omega
        · have := at_lt L5.jb.box; omega)
      clear hb5 d1 d2 d3 HFI
      obtain ⟨q, hq⟩ : ∃ q : Int, ok % 8 = q := ⟨_, rfl⟩
      have hq8 : IntKind.u8.wrap (ok.tmod 8) = q := by
        rw [Int.tmod_eq_emod_of_nonneg hk0, hq]
        exact Int.emod_eq_of_lt (by omega) (by show q < 256; omega)
      have hq9 : ok.tmod 8 = q := by rw [Int.tmod_eq_emod_of_nonneg hk0, hq]
      have qb : 0 ≤ q ∧ q < 8 := by omega
      obtain ⟨qb0, qb1⟩ := qb
      clear hq
      by_cases q4 : q = 4
      · subst q4
        go_wp2_with fail
        generalize w5.alloc (.cells #[.int .i64 fk, .int .i64 fa, .string fb] 42 (0, 0)) = W5 at *
        generalize w5.heap.size = gx at *
        have L5 := Lib.hid (L1.out.same BX.out)
        obtain ⟨x0, x1, x2⟩ := Rec.box3 HXB.out
        clear L1 HXB
        refine (sync_ho L5.out.hs HZ.out).mono ?_
        intro e V6 hp
        obtain ⟨q6, bs6, t6, rfl, hv, hw⟩ := hp
        rcases hw with ⟨rfl, rfl, hw⟩ | ⟨rfl, hw⟩
        · have L6 := Lib.hid (L5.out.move hv hw)
          have HNA2 := HNA
          rw [← HNA.out] at L6
          clear hv hw L5 x0 x1 x2 HNA
          go_wp2_with fail
          go_roundw
          case rel => exact ⟨k + 1, _, _, _, _, _, _, _, _, _, by omega, by omega, by go_num, rfl, rfl, HNA2.out, by omega, by omega, by omega, L6.out⟩
          case measure => simp [intOf]; omega
        · have L6 := Lib.hid (L5.out.move hv hw)
          have HNA2 := HNA
          clear hv hw L5 x0 x1 x2 HNA
          go_wp2_with fail
          go_roundw
          case rel => exact ⟨k + 1, _, _, _, _, _, _, _, _, _, by omega, by omega, by go_num, rfl, rfl, HNA2.out, by omega, by omega, by omega, L6.out⟩
          case measure => simp [intOf]; omega
      by_cases q5 : q = 5
      · subst q5
        go_wp2_with fail
        generalize w5.alloc (.cells #[.int .i64 fk, .int .i64 fa, .string fb] 42 (0, 0)) = W5 at *
        generalize w5.heap.size = gx at *
        have L5 := Lib.hid (L1.out.same BX.out)
        obtain ⟨x0, x1, x2⟩ := Rec.box3 HXB.out
        clear L1
        refine (lost_calls L5.out.hs.wj.jat.jb).mono ?_
        rintro e w' ⟨rfl, rfl⟩
        go_wp2_with fail
        refine (reopen_ho L5.out.hs HZ.out l0 (by omega) fa fa0 fa1).mono ?_
        intro e V6 hp
        obtain ⟨q6, bs6, t6, rfl, hv, hw⟩ := hp
        rcases hw with ⟨rfl, hw⟩ | ⟨rfl, -, hw⟩
        · by_cases hl : 0 < l
          · rw [show gapL l fa = [gapI l fa] from if_pos hl] at hw
            have L6 := Lib.hid (L5.out.move hv hw)
            have hV6 := L6.out.hs.below.size
            have HOA := Lib.hid fun o => (World.ownsRow.alloc (by have := L6.out.own; rw [← HNA.out] at this; exact this) o : (V6.alloc o).drew.ownsRow w.heap.size 42 3 (.slice pa na ca) na (cv A))
            have XB := (hv.1.block gx (at_lt HXB.out) HGX.out).trans HXB.out
            obtain ⟨y0, y1, y2⟩ := Rec.box3 XB
            clear XB x0 x1 x2
            have HPU := Lib.hid fun W => Digit.rput_calls l (by omega) (by omega) W
            have HGI : Hid (gapI l fa = ⟨3, fa, ⟨(Digit.dec l).toArray⟩⟩) := Lib.hid rfl
            obtain ⟨gi, hgi⟩ : ∃ gi, gapI l fa = gi := ⟨_, rfl⟩
            obtain ⟨gb, hgb⟩ : ∃ gb : ByteArray, (⟨(Digit.dec l).toArray⟩ : ByteArray) = gb := ⟨_, rfl⟩
            rw [hgi, hgb] at HGI
            rw [hgi] at L6
            rw [hgb] at HPU
            clear hv hw L5 hgi hgb HXB HGX
            go_wp2_with fail
            go_region_law (first
              | (go_simp; go_at_call 53; refine (HPU.out _).mono ?_; rintro e w' ⟨rfl, rfl⟩)
              | (refine step_append_lies _ rfl (.tmp 63) (.tmp 69) 29 rfl w.heap.size 42 i0 _ 3 32 Tryz.underlying29 hi hi0 hi1 hi2 rfl (by decide) (.slice pa na ca) na (cv A) rfl (HOA.out _) ⟨V6.heap.size, 0, none⟩ 1 1 [.int .i64 3, .int .i64 fa, .string gb] rfl rfl (item_drew V6 _ _ _ _) (by simp [Value.oneCell']) (by omega) (by unfold maxLen; omega) (by omega) (by simp; omega) _ rfl ?_; intro g2 cap2 w9 own9 grow9 at9 _))
            all_goals
              rw [show [Value.int .i64 3, .int .i64 fa, .string gb] = [.int .i64 gi.k, .int .i64 gi.a, .string gi.b] from by rw [HGI.out]] at own9
              have L9 := Lib.hid (L6.out.app (x := gi) (by first | exact (Below.refl V6.heap.size V6).alloc (Nat.le_refl _) _ | exact ((Below.refl V6.heap.size V6).alloc (Nat.le_refl _) _).drew | exact ⟨rfl, rfl, rfl, by simp, fun k hk => Below.heap_alloc _ _ _ hk⟩) HNA.out own9 grow9 (by first | exact at9 | simpa using at9))
              obtain ⟨n2, hn2⟩ : ∃ n2, na + 1 = n2 := ⟨_, rfl⟩
              have HNA2 : Hid (n2 = (A ++ [gi]).length) := Lib.hid (by rw [List.length_append, List.length_singleton, ← HNA.out, hn2])
              have hn2k : n2 ≤ na0 + (k + 1) := by omega
              rw [hn2] at L9 ⊢
              clear own9 grow9 at9 hn2 HNA L6 HOA hV6
              go_wp2_with fail
              go_roundw
              case rel => exact ⟨k + 1, _, _, _, _, _, _, _, _, _, by omega, by omega, by go_num, rfl, rfl, HNA2.out, by omega, by omega, by omega, L9.out⟩
              case measure => simp [intOf]; omega
          · rw [show gapL l fa = [] from if_neg hl, List.append_nil] at hw
            have L6 := Lib.hid (L5.out.move hv hw)
            have HNA2 := HNA
            clear hv hw L5 x0 x1 x2 HNA HXB HGX
            go_wp2_with fail
            go_roundw
            case rel => exact ⟨k + 1, _, _, _, _, _, _, _, _, _, by omega, by omega, by go_num, rfl, rfl, HNA2.out, by omega, by omega, by omega, L6.out⟩
            case measure => simp [intOf]; omega
        · have L6 := Lib.hid (L5.out.move hv hw)
          have HNA2 := HNA
          clear hv hw L5 x0 x1 x2 HNA HXB HGX
          go_wp2_with fail
          go_roundw
          case rel => exact ⟨k + 1, _, _, _, _, _, _, _, _, _, by omega, by omega, by go_num, rfl, rfl, HNA2.out, by omega, by omega, by omega, L6.out⟩
          case measure => simp [intOf]; omega
      by_cases q6 : q = 6
      · subst q6
        have m4 : on.tmod 4 = on % 4 := Int.tmod_eq_emod_of_nonneg hn0
        obtain ⟨m, hm⟩ : ∃ m, on % 4 = m := ⟨_, rfl⟩
        have hm0 : 0 ≤ m ∧ m < 4 := by omega
        rw [hm] at m4
        obtain ⟨hm1, hm2⟩ := hm0
        clear hm
        have d4 := (HN.out _ BX.out).2
        go_wp2_with fail
        generalize w5.alloc (.cells #[.int .i64 fk, .int .i64 fa, .string fb] 42 (0, 0)) = W5 at *
        generalize w5.heap.size = gx at *
        have L5 := Lib.hid (L1.out.same BX.out)
        obtain ⟨x0, x1, x2⟩ := Rec.box3 HXB.out
        clear L1 HXB
        refine (fail_ho L5.out.hs _ (by omega)).mono ?_
        intro e V6 hp
        obtain ⟨rfl, bs6, t6, hv, hw⟩ := hp
        have L6 := Lib.hid (L5.out.move hv hw)
        have HNA2 := HNA
        clear hv hw L5 x0 x1 x2 HNA
        go_wp2_with fail
        go_roundw
        case rel => exact ⟨k + 1, _, _, _, _, _, _, _, _, _, by omega, by omega, by go_num, rfl, rfl, HNA2.out, by omega, by omega, by omega, L6.out⟩
        case measure => simp [intOf]; omega
      have b4 : (q == 4) = false := by simpa using q4
      have b5 : (q == 5) = false := by simpa using q5
      have b6 : (q == 6) = false := by simpa using q6
      go_wp2_with fail
      generalize w5.alloc (.cells #[.int .i64 fk, .int .i64 fa, .string fb] 42 (0, 0)) = W5 at *
      generalize w5.heap.size = gx at *
      have L5 := Lib.hid (L1.out.same BX.out)
      obtain ⟨x0, x1, x2⟩ := Rec.box3 HXB.out
      clear L1
      refine (add_ho L5.out.hs HZ.out l0 (by omega) fk fa fb HF1.out).mono ?_
      intro e V6 hp
      obtain ⟨q6, bs6, t6, rfl, hv, hw⟩ := hp
      rcases hw with ⟨rfl, rfl, hw⟩ | ⟨rfl, hw⟩
      · have L6 := Lib.hid (L5.out.move hv hw)
        have hV6 := L6.out.hs.below.size
        have HOA := Lib.hid fun o => (World.ownsRow.alloc (by have := L6.out.own; rw [← HNA.out] at this; exact this) o : (V6.alloc o).ownsRow w.heap.size 42 3 (.slice pa na ca) na (cv A))
        have XB := (hv.1.block gx (at_lt HXB.out) HGX.out).trans HXB.out
        obtain ⟨y0, y1, y2⟩ := Rec.box3 XB
        clear XB x0 x1 x2
        clear hv hw L5 HXB HGX
        go_wp2_with (at_builtin; go_loud (refine append_lies rfl (.tmp 41) (.tmp 43) 29 rfl w.heap.size 42 i0 _ 3 32 Tryz.underlying29 hi hi0 hi1 hi2 rfl (by decide) (.slice pa na ca) na (cv A) rfl (HOA.out _) ⟨V6.heap.size, 0, none⟩ 1 1 [.int .i64 fk, .int .i64 fa, .string fb] rfl rfl (item_new V6 _ _ _ _) (by simp [Value.oneCell']) (by omega) (by unfold maxLen; omega) (by omega) (by simp; omega) ?_; intro g2 cap2 w9 own9 grow9 at9 _))
        have L9 := Lib.hid (L6.out.app (x := (⟨fk, fa, fb⟩ : Itm)) (by first | exact (Below.refl V6.heap.size V6).alloc (Nat.le_refl _) _ | exact ((Below.refl V6.heap.size V6).alloc (Nat.le_refl _) _).drew | exact ⟨rfl, rfl, rfl, by simp, fun k hk => Below.heap_alloc _ _ _ hk⟩) HNA.out own9 grow9 (by first | exact at9 | simpa using at9))
        obtain ⟨n2, hn2⟩ : ∃ n2, na + 1 = n2 := ⟨_, rfl⟩
        have HNA2 : Hid (n2 = (A ++ [(⟨fk, fa, fb⟩ : Itm)]).length) := Lib.hid (by rw [List.length_append, List.length_singleton, ← HNA.out, hn2])
        have hn2k : n2 ≤ na0 + (k + 1) := by omega
        rw [hn2] at L9 ⊢
        clear own9 grow9 at9 hn2 HNA L6 HOA hV6
        go_wp2_with fail
        go_roundw
        case rel => exact ⟨k + 1, _, _, _, _, _, _, _, _, _, by omega, by omega, by go_num, rfl, rfl, HNA2.out, by omega, by omega, by omega, L9.out⟩
        case measure => simp [intOf]; omega
      · have L6 := Lib.hid (L5.out.move hv hw)
        have HNA2 := HNA
        clear hv hw L5 x0 x1 x2 HNA HXB HGX
        go_wp2_with fail
        go_roundw
        case rel => exact ⟨k + 1, _, _, _, _, _, _, _, _, _, by omega, by omega, by go_num, rfl, rfl, HNA2.out, by omega, by omega, by omega, L6.out⟩
        case measure => simp [intOf]; omega
    · have HP : Hid (LvPost w j b K size na0 (.returned (.tuple #[.slice pa na ca, .int .i64 u])) wr) := Lib.hid ⟨bs, t, r, l, A, u, na, ca, pa, rfl, HNA.out, by omega, L1.out⟩
      clear HF L1 HNA
      by_cases hlt : k < n0
      · have q1 : (k : Int) < (n0 : Int) := by omega
        have q30 : ¬ (k : Int) < 30 := by omega
        go_wp2_with fail
        go_ret2
        exact HP.out
      · have q1 : ¬ (k : Int) < (n0 : Int) := by omega
        go_wp2_with fail
        go_ret2
        exact HP.out
end Go.Proofs.YtngangdjbbbbdaaGreat.Jrn
end

section
namespace Go.Proofs.YtngangdjbbbbdaaGreat.Rst
open Go.RowKit Go.Proofs.YtngangdjbbbbdaaGreat.Own Go.Proofs.YtngangdjbbbbdaaGreat.Sto Go.ChangeShapes Go.WideShapes Go.Deep
open Go.Proofs.YtngangdjbbbbdaaGreat.Rw (str strs Row1)
open Go.Proofs.YtngangdjbbbbdaaGreat.Jrn (Oc OkO ORow oc_leaf cOp)

structure Lf where
  lp : Option Addr
  ln : Nat
  lc : Nat
  lf : Nat → Oc
  kp : Option Addr
  kn : Nat
  kc : Nat
  ks : List Int
structure OkL (w : World) (x : Lf) : Prop where
  ops : ORow w x.lp x.lc x.ln x.lf
  len : x.ks.length = x.kn
  row : Row1 w x.kp x.kc (iv x.ks)
  rng : ∀ k ∈ x.ks, -9223372036854775808 ≤ k ∧ k ≤ 9223372036854775807
/-- a slice of lives, as it lies in memory -/
structure LRow (w : World) (p : Option Addr) (c n : Nat) (f : Nat → Lf) : Prop where
  cap : n ≤ c
  max : c ≤ maxLen
  cells : n = 0 ∨ ∃ g o, p = some ⟨g, o, none⟩ ∧ g < w.heap.size ∧ ∀ i, i < n → w.cell? ⟨g, o + i * 2, none⟩ = some (.slice (f i).lp (f i).ln (f i).lc) ∧ w.cell? ⟨g, o + i * 2 + 1, none⟩ = some (.slice (f i).kp (f i).kn (f i).kc)
  ok : ∀ i, i < n → OkL w (f i)
section
variable {H : Type} {enc : TypeId × Value → H} {w : World} {base : Nat} {spare : Nat → Bool} {held : Bool}
theorem cInts : Tryz.prog.cellsOf 58 = 1 := by kernel_rfl
theorem cOps : Tryz.prog.cellsOf 57 = 1 := by kernel_rfl
theorem cLife : Tryz.prog.cellsOf 60 = 2 := by kernel_rfl
theorem leaf_ints {m : Nat} {y : DataW H × List MemPlace} {E : Nat → Value} (h : DataW.trod enc Tryz.prog w base spare held m 58 ((List.range 1).map E) = some y) :
    ∃ q K cq ks, E 0 = .slice q K cq ∧ ks.length = K ∧ Row1 w q cq (iv ks) ∧ ∀ k ∈ ks, -9223372036854775808 ≤ k ∧ k ≤ 9223372036854775807 := by
  have hv : ∃ a n cap, E 0 = .slice a n cap := by
    rcases open_slice Tryz.underlying58 h with ⟨hcs, _⟩ | ⟨x, l, c, _, _, _, _, hcs, _⟩
    · exact ⟨_, _, _, by simpa using hcs⟩
    · exact ⟨_, _, _, by simpa using hcs⟩
  have ht : DataW.Trod enc Tryz.prog w base spare held 58 (E 0) y.1 y.2 := by
    refine ⟨m, ?_⟩
    obtain ⟨a, n, cap, e⟩ := hv
    have e2 : (E 0).cells.toList = (List.range 1).map E := by rw [e]; simp [Value.cells, e]
    rw [e2, h]
  exact ints_arg ht hv
set_option maxRecDepth 100000 in
theorem ocs_arg {v : Value} {d : DataW H} {p : List MemPlace} (h : DataW.Trod enc Tryz.prog w base spare held 57 v d p) (hv : ∃ a n cap, v = .slice a n cap) :
    ∃ q n c f, v = .slice q n c ∧ ORow w q c n f := by
  obtain ⟨n, E, hrow, mm, hE⟩ := Own.args_slice Tryz.underlying57 (size := 5) cOp (by omega) h hv
  have hz : ∀ i, ∃ o : Oc, i < n → OkO o ∧ E i 0 = .int .u8 o.k ∧ E i 1 = .int .i64 o.xk ∧ E i 2 = .int .i64 o.xa ∧ E i 3 = .string o.xb ∧ E i 4 = .int .u8 o.n := fun i => by
    by_cases hi : i < n
    · obtain ⟨y, hy⟩ := hE i hi
      obtain ⟨o, ho⟩ := oc_leaf hy
      exact ⟨o, fun _ => ho⟩
    · exact ⟨⟨0, 0, 0, ByteArray.empty, 0⟩, fun h => absurd h hi⟩
  obtain ⟨a2, cap2, rfl, h1, h2, h3⟩ := hrow
  refine ⟨a2, n, cap2, fun i => (hz i).choose, rfl, h1, h2, ?_, fun i hi => ((hz i).choose_spec hi).1⟩
  refine h3.imp id ?_
  rintro ⟨g, off, e, hl, hc⟩
  refine ⟨g, off, e, hl, fun i hi => ?_⟩
  obtain ⟨_, e0, e1, e2, e3, e4⟩ := (hz i).choose_spec hi
  have c0 := hc i 0 hi (by omega)
  have c1 := hc i 1 hi (by omega)
  have c2 := hc i 2 hi (by omega)
  have c3 := hc i 3 hi (by omega)
  have c4 := hc i 4 hi (by omega)
  rw [e0] at c0
  rw [e1] at c1
  rw [e2] at c2
  rw [e3] at c3
  rw [e4] at c4
  exact ⟨by simpa using c0, c1, c2, c3, c4⟩
theorem leaf_ocs {m : Nat} {y : DataW H × List MemPlace} {E : Nat → Value} (h : DataW.trod enc Tryz.prog w base spare held m 57 ((List.range 1).map E) = some y) :
    ∃ q n c f, E 0 = .slice q n c ∧ ORow w q c n f := by
  have hv : ∃ a n cap, E 0 = .slice a n cap := by
    rcases open_slice Tryz.underlying57 h with ⟨hcs, _⟩ | ⟨x, l, c, _, _, _, _, hcs, _⟩
    · exact ⟨_, _, _, by simpa using hcs⟩
    · exact ⟨_, _, _, by simpa using hcs⟩
  have ht : DataW.Trod enc Tryz.prog w base spare held 57 (E 0) y.1 y.2 := by
    refine ⟨m, ?_⟩
    obtain ⟨a, n, cap, e⟩ := hv
    have e2 : (E 0).cells.toList = (List.range 1).map E := by rw [e]; simp [Value.cells, e]
    rw [e2, h]
  exact ocs_arg ht hv
theorem lf_leaf {m : Nat} {y : DataW H × List MemPlace} {E : Nat → Value} (hy : DataW.trod enc Tryz.prog w base spare held m 60 ((List.range 2).map E) = some y) : ∃ x : Lf, OkL w x ∧ E 0 = .slice x.lp x.ln x.lc ∧ E 1 = .slice x.kp x.kn x.kc := by
  obtain ⟨m0, y0, h0⟩ := leaf_field Tryz.underlying60 hy 0 _ rfl 0 1 rfl cOps (by omega)
  obtain ⟨m1, y1, h1⟩ := leaf_field Tryz.underlying60 hy 1 _ rfl 1 1 rfl cInts (by omega)
  obtain ⟨q, n, c, f, e0, hO⟩ := leaf_ocs h0
  obtain ⟨kq, K, cq, ks, e1, hK, hr, hg⟩ := leaf_ints h1
  exact ⟨⟨q, n, c, f, kq, K, cq, ks⟩, ⟨hO, hK, hr, hg⟩, by simpa using e0, by simpa using e1⟩
set_option maxRecDepth 100000 in
theorem lives_open {v : Value} (t : ∃ d p, DataW.Trod enc Tryz.prog w base spare held 52 v d p) {r : Reach} (o : ∃ base, Value.okWide Tryz.prog w r base 52 v) :
    ∃ q n c f, v = .slice q n c ∧ LRow w q c n f := by
  obtain ⟨d, p, t⟩ := t
  obtain ⟨b0, o⟩ := o
  obtain ⟨a, len, cap, rfl⟩ := okWide_slice Tryz.underlying52 o
  obtain ⟨n, E, hrow, m, hE⟩ := args_slice Tryz.underlying52 (size := 2) cLife (by omega) t ⟨_, _, _, rfl⟩
  have hz : ∀ i, ∃ x : Lf, i < n → OkL w x ∧ E i 0 = .slice x.lp x.ln x.lc ∧ E i 1 = .slice x.kp x.kn x.kc := fun i => by
    by_cases hi : i < n
    · obtain ⟨y, hy⟩ := hE i hi
      obtain ⟨x, h⟩ := lf_leaf hy
      exact ⟨x, fun _ => h⟩
    · exact ⟨⟨none, 0, 0, fun _ => ⟨0, 0, 0, ByteArray.empty, 0⟩, none, 0, 0, []⟩, fun h => absurd h hi⟩
  obtain ⟨a2, cap2, e, h1, h2, h3⟩ := hrow
  cases e
  refine ⟨a, len, cap, fun i => (hz i).choose, rfl, h1, h2, ?_, fun i hi => ((hz i).choose_spec hi).1⟩
  refine h3.imp id ?_
  rintro ⟨g, off, e, hl, hc⟩
  refine ⟨g, off, e, hl, fun i hi => ?_⟩
  obtain ⟨_, e0, e1⟩ := (hz i).choose_spec hi
  have c0 := hc i 0 hi (by omega)
  have c1 := hc i 1 hi (by omega)
  rw [e0] at c0
  rw [e1] at c1
  exact ⟨by simpa using c0, c1⟩
end
end Go.Proofs.YtngangdjbbbbdaaGreat.Rst
end

section
namespace Go.Proofs.YtngangdjbbbbdaaGreat.Rst
open Go.RowKit Go.Proofs.YtngangdjbbbbdaaGreat.Own Go.Proofs.YtngangdjbbbbdaaGreat.Sto Go.Proofs.YtngangdjbbbbdaaGreat.Gen Go.Proofs.YtngangdjbbbbdaaGreat.Flt
open Go.Proofs.YtngangdjbbbbdaaGreat.Rec (Itm Its chk bytesOf flat cv cv_len cv_app)
open Go.Proofs.YtngangdjbbbbdaaGreat.Rw (str strs Row1 Texts)
open Go.Proofs.YtngangdjbbbbdaaGreat.Jrn (Gs cat Hist Hs TnS Sz Oc ORow Wj)

theorem log_field (p : Option Addr) (n c : Nat) (d z : Int) (W : World) : (Instr.field 31 (.agg #[.slice p n c, .int .i64 d, .int .i64 z]) 0).run Tryz.prog W = .ok (.slice p n c) W := by kernel_rfl
/-- a store, and what it told in a row of the law's own -/
structure LvAt (w wr : World) (bs : Nat → Prop) (b : Nat) (t : St) (A : List Itm) (pa : Option Addr) (na ca : Nat) : Prop where
  ws : Ws w wr bs b t
  own : wr.ownsRow w.heap.size 42 3 (.slice pa na ca) na (cv A)
  far : ∀ g, (Value.slice pa na ca).ownBlock = some g → ¬ bs g
  num : na = A.length
section
variable {w V V' : World} {bs bs' : Nat → Prop} {b K : Nat} {t t' : St} {A : List Itm} {pa : Option Addr} {na ca : Nat}
theorem LvAt.same (h : LvAt w V bs b t A pa na ca) (hb : Below V.heap.size V V') : LvAt w V' bs b t A pa na ca := ⟨h.ws.same hb, own_below h.own hb, h.far, h.num⟩
theorem LvAt.go (h : LvAt w V bs b t A pa na ca) (hs : Sto V' bs' b t') (ho : Out bs V V') (hn : ∀ k, bs' k → bs k ∨ V.heap.size ≤ k) : LvAt w V' bs' b t' A pa na ca := by
  refine ⟨h.ws.go hs ho hn, Tree.own_out h.own ho h.far, fun g hg hb => ?_, h.num⟩
  rcases hn _ hb with h1 | h1
  · exact h.far g hg h1
  · have := (Tree.own_lt h.own hg).2; omega
theorem LvAt.its (h : LvAt w V bs b t A pa na ca) : Its V A pa ca := Rec.owns_its h.own h.num
/-- begun anew -/
theorem lv_begin {G : Gs} (h : LvAt w V bs b t A pa na ca) (hG : Aft t K G) (hA : A = cat G K) (hb : t.bad = 0) (hK : 1 ≤ K) (hK2 : K ≤ 16) (hH : held (K : Nat) = K) :
    Calls Tryz.prog 20 #[pb b, .string ⟨#[108, 111, 103]⟩, .int .i64 (K : Nat)] V fun e w' => e = .returned .nilIface ∧ ∃ bs' t', LvAt w w' bs' b t' A pa na ca ∧ Hist t' K A A.length := by
  cases hs : (flk t.L lg).isSome with
  | false =>
    refine (begin_none h.ws.sto lg (by decide) (K : Nat) hs).mono ?_
    rintro e w' ⟨rfl, hb2⟩
    exact ⟨rfl, bs, t, h.same hb2, by rw [hA]; exact hG.rest hK hs⟩
  | true =>
    have hT := hG.turn h.ws.sto.ok (by rw [hb]; omega) hK hK2 hs
    have := begin_some h.ws.sto lg (by decide) (K : Nat) hs
    rw [hH] at this
    refine this.mono ?_
    rintro e w' ⟨v, k, bs', rfl, hE, -, hs', ho, hn⟩
    rw [hT.1] at hE
    obtain rfl : v = .nilIface := by
      rcases hE with ⟨_, h⟩ | ⟨h, _⟩
      · exact h
      · exact absurd rfl h
    exact ⟨rfl, bs', _, h.go hs' ho hn, by rw [hA]; exact hT.2.2⟩
/-- what is read -/
theorem lv_load (h : Sto V bs b t) (hH : held (K : Nat) = K) :
    Calls Tryz.prog 7 #[pb b, .string ⟨#[108, 111, 103]⟩, .int .i64 (K : Nat)] V fun e w' => ∃ p c n d z, e = .returned (.agg #[.slice p n c, .int .i64 d, .int .i64 z]) ∧ n = (Jrn.load ((fnd t (ser lg K)).map Fl.bs)).length ∧
      w'.ownsRow V.heap.size 42 3 (.slice p n c) n (cv (Jrn.load ((fnd t (ser lg K)).map Fl.bs))) ∧ Below V.heap.size V w' := by
  have := load_calls h lg (by decide) (K : Nat)
  rw [hH] at this
  refine this.mono ?_
  rintro e w' ⟨v, rfl, ho, hb⟩
  change w'.ownsRow V.heap.size 42 3 v (Jrn.load _).length (cv (Jrn.load _)) at ho
  obtain ⟨p, c, rfl⟩ := own_shape ho
  exact ⟨p, c, _, _, _, rfl, rfl, ho, hb⟩
/-- a life begins -/
theorem LvAt.tn {size : Int} (h : LvAt w V bs b t A pa na ca) (hist : Hist t K A A.length) (hj : Jrn.Jb V' V.heap.size b lg (K : Nat) size false 0) (hb : Below V.heap.size V V') : TnS w V' bs V.heap.size b t K size false 0 A A.length A (.slice pa na ca) := by
  have hw := Wj.new h.ws.below h.ws.sto h.ws.mine hj hb
  refine ⟨⟨hw, hist, Nat.le_refl _⟩, by have := own_below h.own hb; rw [← h.num]; exact this, fun g hg => ⟨h.far g hg, fun e => ?_⟩⟩
  have := (Tree.own_lt h.own hg).2
  omega
theorem aft_new (K : Nat) (most bad : Int) : Aft ⟨[], most, bad⟩ K (fun _ => none) ∧ ([] : List Itm) = cat (fun _ => none) K := by
  have e : ∀ K : Nat, cat (fun _ => none) K = [] := fun K => by
    induction K with
    | zero => rfl
    | succ K ih => show [] ++ cat _ K = []; rw [ih]; rfl
  refine ⟨⟨fun i _ => ⟨[], rfl, fun _ h => nomatch h⟩, fun _ _ => rfl, fun x hx => ?_, fun i _ _ h => nomatch h⟩, (e K).symm⟩
  rw [e] at hx
  cases hx
theorem LRow.at_ {p : Option Addr} {c n : Nat} {f : Nat → Lf} (h : LRow w p c n f) {k : Nat} (hk : k < n) :
    ∃ g o, p = some ⟨g, o, none⟩ ∧ ∀ W, Below w.heap.size w W → W.cell? ⟨g, o + k * 2, none⟩ = some (.slice (f k).lp (f k).ln (f k).lc) ∧ W.cell? ⟨g, o + k * 2 + 1, none⟩ = some (.slice (f k).kp (f k).kn (f k).kc) := by
  rcases h.cells with h0 | ⟨g, o, e, hl, hc⟩
  · omega
  · exact ⟨g, o, e, fun W hW => ⟨(hW.cell (p := ⟨g, _, none⟩) hl).trans (hc k hk).1, (hW.cell (p := ⟨g, _, none⟩) hl).trans (hc k hk).2⟩⟩
end
end Go.Proofs.YtngangdjbbbbdaaGreat.Rst
end


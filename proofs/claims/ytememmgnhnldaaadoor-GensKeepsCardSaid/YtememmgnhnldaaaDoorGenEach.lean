/-
  Layer 21 (gens): each of those that there are is told; Names, All.
-/
import Derived.Test.YtememmgnhnldaaaDoorGenLow
namespace Go.Proofs.YtememmgnhnldaaaDoor.Gen
open Go.RowKit Go.Proofs.YtememmgnhnldaaaDoor.Own Go.Proofs.YtememmgnhnldaaaDoor.Sto
open Go.Proofs.YtememmgnhnldaaaDoor.Rw (str strs Row1 Texts own_shape texts_own strs_app one_new)
open Go.Proofs.YtememmgnhnldaaaDoor.Tree (own_slice own_out out_grown own_lt)

theorem row_out {S : Nat → Prop} {w w' : World} {p : Option Addr} {c : Nat} {ts : List Bs} (h : Texts w p c ts) (ho : Out S w w') (hp : ∀ b o, p = some ⟨b, o, none⟩ → ¬ S b) : Texts w' p c ts :=
  ⟨h.row.cap, h.row.max, h.row.cells.imp id fun ⟨b, o, e, hl, k⟩ => ⟨b, o, e, Nat.lt_of_lt_of_le hl ho.size, fun i x hx => (ho.cell (p := ⟨b, o + i, none⟩) hl (hp b o e)).trans (k i x hx)⟩⟩
/-- the box of those that were found, behind l, in a world that W1 became -/
structure FdAt (W1 : World) (B : Nat) (g : Fl → Bs) (l : List Fl) (W : World) : Prop where
  lt : B < W1.heap.size
  box : ∃ v, W.heap[B]? = some (.cells #[v] 29 (0, 0)) ∧ W.ownsRow W1.heap.size 9 1 v l.length (strs (l.map g))
  out : Out (fun k => k = B) W1 W
theorem FdAt.below {W1 W W' : World} {B : Nat} {g : Fl → Bs} {l : List Fl} (h : FdAt W1 B g l W) (hb : Below W.heap.size W W') : FdAt W1 B g l W' := by
  obtain ⟨v, h1, h2⟩ := h.box
  exact ⟨h.lt, ⟨v, (hb.block _ (at_lt h1)).trans h1, own_below h2 hb⟩, h.out.trans (Out.ofNew (S := fun k => k = B) hb) (fun _ _ h => h)⟩
theorem FdAt.kept {W1 W w1 : World} {B : Nat} {g : Fl → Bs} {l : List Fl} {v : Value} (h : FdAt W1 B g l W) (o : Obj) (hv : W.heap[B]? = some (.cells #[v] 29 (0, 0)))
    (hg : (W.alloc o).grownBy w1 v.ownBlock) : w1.heap[B]? = some (.cells #[v] 29 (0, 0)) ∧ Out (fun k => k = B) W1 w1 := by
  obtain ⟨u, h1, h2⟩ := h.box
  obtain rfl : u = v := by rw [h1] at hv; injection hv with hv; injection hv with hv; simpa using hv
  have hlt := h.lt
  have hs := h.out.size
  have hB : ∀ k, u.ownBlock = some k → W1.heap.size ≤ k := fun k hk => (own_lt h2 hk).1
  refine ⟨(hg.block B (by simp; omega) fun e => ?_).trans ((Below.heap_alloc _ _ _ (by omega)).trans h1), out_grown (h.out.alloc o) hg fun k hk hlt => by have := hB k hk; omega⟩
  have := hB B e.symm
  omega
theorem FdAt.step {W1 W w1 : World} {B : Nat} {g : Fl → Bs} {l : List Fl} {x : Fl} {v v' : Value} (h : FdAt W1 B g l W) (o : Obj) (hv : W.heap[B]? = some (.cells #[v] 29 (0, 0)))
    (ho : w1.ownsRow W1.heap.size 9 1 v' (l.length + 1) (strs (l.map g) ++ [.string ⟨(g x).toArray⟩])) (hg : (W.alloc o).grownBy w1 v.ownBlock) : FdAt W1 B g (l ++ [x]) (w1.setCell ⟨B, 0, none⟩ v') := by
  obtain ⟨hb1, ho1⟩ := h.kept o hv hg
  refine ⟨h.lt, ⟨v', by have := at_set hb1 0 v'; simpa using this, ?_⟩, ho1.setCell (p := ⟨B, 0, none⟩) (fun _ => rfl) _⟩
  refine own_set ?_ h.lt 0 v'
  rw [List.length_append, List.map_append, strs_app]; exact ho

set_option maxRecDepth 100000 in
set_option maxHeartbeats 2000000 in
theorem addName_calls {W1 W : World} {B : Nat} {l : List Fl} (x : Fl) (h : FdAt W1 B Fl.nm l W) (hl : l.length ≤ 1000) :
    Calls Tryd.prog 39 #[.string ⟨x.nm.toArray⟩, .string ⟨x.bs.toArray⟩, .pointer (some ⟨B, 0, none⟩)] W fun e W' => e = .returned (.tuple #[]) ∧ FdAt W1 B Fl.nm (l ++ [x]) W' := by
  obtain ⟨i0, hi, hz0, hz1, hz2⟩ := info_parts info_str
  obtain ⟨v, h1, h2⟩ := h.box
  have hs := h.out.size
  have hlt := h.lt
  have HS := Lib.hid fun (o : Obj) (w1 : World) (v' : Value) ho hg => h.step (x := x) (w1 := w1) (v' := v') o h1 ho hg
  have HK := Lib.hid fun (o : Obj) (w1 : World) hg => (h.kept (w1 := w1) o h1 hg).1
  obtain ⟨tp, tc, rfl, -⟩ := own_slice h2
  have c0 : W.cell? ⟨B, 0, none⟩ = some (.slice tp l.length tc) := at_cell h1 0
  have f0 := at_frozen h1 0
  have HO := Lib.hid h2
  generalize x.nm = a at *
  clear h h1 h2
  go_enter Tryd.func39, Tryd.ntmps39
  go_wp2_with (at_builtin; refine Own.append_any rfl _ _ 29 rfl W1.heap.size 9 i0 _ 1 16 Tryd.underlying29 hi hz0 hz1 hz2 rfl (by decide) _ _ _ rfl (World.ownsRow.alloc HO.out _) _ 1 1 [.string ⟨a.toArray⟩] rfl (fun h => nomatch h) rfl (one_new _ _ _ _ (by simp)) (by simp [Value.oneCell']) (by unfold maxLen; omega) (by omega) (by simp; omega) ?_; intro v' w1 hown1 hgrow1; have C1 := Lib.hid (HS.out _ w1 v' hown1 hgrow1); have k0 := HK.out _ w1 hgrow1; clear hgrow1; obtain ⟨tq, tr, rfl, -⟩ := own_slice hown1; clear hown1; have d0 : w1.cell? ⟨B, 0, none⟩ = some (.slice tp l.length tc) := at_cell k0 0; have d1 := at_frozen k0 0; have d2 := at_lt k0; clear k0)
  go_end0
  exact ⟨rfl, C1.out⟩
set_option maxRecDepth 100000 in
set_option maxHeartbeats 2000000 in
theorem addBytes_calls {W1 W : World} {B : Nat} {l : List Fl} (x : Fl) (h : FdAt W1 B Fl.bs l W) (hl : l.length ≤ 1000) :
    Calls Tryd.prog 20 #[.string ⟨x.nm.toArray⟩, .string ⟨x.bs.toArray⟩, .pointer (some ⟨B, 0, none⟩)] W fun e W' => e = .returned (.tuple #[]) ∧ FdAt W1 B Fl.bs (l ++ [x]) W' := by
  obtain ⟨i0, hi, hz0, hz1, hz2⟩ := info_parts info_str
  obtain ⟨v, h1, h2⟩ := h.box
  have hs := h.out.size
  have hlt := h.lt
  have HS := Lib.hid fun (o : Obj) (w1 : World) (v' : Value) ho hg => h.step (x := x) (w1 := w1) (v' := v') o h1 ho hg
  have HK := Lib.hid fun (o : Obj) (w1 : World) hg => (h.kept (w1 := w1) o h1 hg).1
  obtain ⟨tp, tc, rfl, -⟩ := own_slice h2
  have c0 : W.cell? ⟨B, 0, none⟩ = some (.slice tp l.length tc) := at_cell h1 0
  have f0 := at_frozen h1 0
  have HO := Lib.hid h2
  generalize x.bs = a at *
  clear h h1 h2
  go_enter Tryd.func20, Tryd.ntmps20
  go_wp2_with (at_builtin; refine Own.append_any rfl _ _ 29 rfl W1.heap.size 9 i0 _ 1 16 Tryd.underlying29 hi hz0 hz1 hz2 rfl (by decide) _ _ _ rfl (World.ownsRow.alloc HO.out _) _ 1 1 [.string ⟨a.toArray⟩] rfl (fun h => nomatch h) rfl (one_new _ _ _ _ (by simp)) (by simp [Value.oneCell']) (by unfold maxLen; omega) (by omega) (by simp; omega) ?_; intro v' w1 hown1 hgrow1; have C1 := Lib.hid (HS.out _ w1 v' hown1 hgrow1); have k0 := HK.out _ w1 hgrow1; clear hgrow1; obtain ⟨tq, tr, rfl, -⟩ := own_slice hown1; clear hown1; have d0 : w1.cell? ⟨B, 0, none⟩ = some (.slice tp l.length tc) := at_cell k0 0; have d1 := at_frozen k0 0; have d2 := at_lt k0; clear k0)
  go_end0
  exact ⟨rfl, C1.out⟩

set_option maxRecDepth 100000 in
set_option maxHeartbeats 4000000 in
/-- each of those that there are -/
theorem each_calls (J : List Fl → World → Prop) (F : Nat) (hE : Enters Tryd.prog F) (cp : Addr) {bs : Nat → Prop} {b : Nat} {t : St} (ns : List Bs) (n : Nat) (hn : n = ns.length) (p : Option Addr) (c : Nat) (w : World) (hm : n ≤ 1000)
    (hs : ∀ a ∈ ns, a.length ≤ 2000000) (h0 : J [] w) (hb : ∀ l W W', J l W → Below W.heap.size W W' → J l W') (hJ : ∀ l W, J l W → Sto W bs b t ∧ Texts W p c ns)
    (hF : ∀ l W x, l.length ≤ 1000 → J l W → Calls Tryd.prog F #[.string ⟨x.nm.toArray⟩, .string ⟨x.bs.toArray⟩, .pointer (some cp)] W fun e W' => e = .returned (.tuple #[]) ∧ J (l ++ [x]) W') :
    Calls Tryd.prog 19 #[pb b, .func (.func F) #[] #[.pointer (some cp)], .slice p n c] w fun e w' => e = .returned (.tuple #[]) ∧ J (fnd t ns) w' := by
  have HN := Lib.hid hn
  have HS := Lib.hid hs
  have HB := Lib.hid hb
  have HJ := Lib.hid hJ
  have HF := Lib.hid hF
  have H0 := Lib.hid h0
  have hE2 : ∀ args w, (callFunc F args).run Tryd.prog w = .ok (.enter F args) w := hE
  have hc1 : n ≤ c := by rw [hn]; exact (hJ [] w h0).2.cap.1
  have hc2 : c ≤ 9223372036854775807 := by have := (hJ [] w h0).2.cap.2; unfold maxLen at this; omega
  clear hE hn hs hb hJ hF h0
  go_enter Tryd.func19, Tryd.ntmps19
  go_wp2_with fail
  go_loopw [12] (fun i wr => ∃ k : Nat, k ≤ n ∧ i = .int .i64 k ∧ J (fnd t (ns.take k)) wr) (fun i _ => n - (intOf i).toNat)
  case atStart => exact ⟨0, by omega, rfl, H0.out⟩
  case round =>
    obtain ⟨k, hk, rfl, C⟩ := hrel
    rename World => wr
    have HC := Lib.hid C
    clear C
    rcases Nat.lt_or_eq_of_le hk with hlt | ek
    · have hl1 : k < ns.length := by rw [← HN.out]; exact hlt
      obtain ⟨hsto, htx⟩ := HJ.out _ _ HC.out
      rcases htx.cells with e0 | ⟨g, o, rfl, hg, hcell⟩
      · rw [e0] at hl1; simp at hl1
      have c0 := hcell k hl1
      rw [str] at c0
      have q1 : (k : Int) < (n : Int) := by omega
      have hsz := HS.out _ (List.getElem_mem hl1)
      have HNX : Hid (ns.take (k + 1) = ns.take k ++ [ns[k]]) := Lib.hid (List.take_succ_eq_append_getElem hl1)
      have hlen : (fnd t (ns.take k)).length ≤ 1000 := by have := fnd_len t (ns.take k); rw [List.length_take] at this; omega
      generalize ns[k] = a at *
      have HR := Lib.hid (sto_read hsto ⟨a.toArray⟩ (by rw [size_of]; unfold maxLen; omega))
      rw [show (⟨a.toArray⟩ : ByteArray).data.toList = a from rfl] at HR
      have HQ := Lib.hid (fnd_snoc t (ns.take k) a)
      rw [← HNX.out] at HQ
      clear hsto htx hcell hsz hl1 HNX
      cases hl : flk t.L a with
      | none =>
        have HQ2 : Hid (fnd t (ns.take (k + 1)) = fnd t (ns.take k)) := Lib.hid (by rw [HQ.out, hl]; simp)
        rw [hl] at HR
        have HR2 := Lib.hid (HR.out)
        rw [Option.isSome_none] at HR2
        generalize (got t.L a).bs = x at *
        clear HR HQ hl
        go_wp2_with fail
        refine HR2.out.mono ?_
        rintro e w5 ⟨rfl, hb5⟩
        have C5 := Lib.hid (HB.out _ _ _ HC.out hb5)
        clear hb5
        go_wp2_with fail
        go_roundw
        case rel => exact ⟨k + 1, by omega, by go_num, by rw [HQ2.out]; exact C5.out⟩
        case measure => simp [intOf]; omega
      | some x =>
        have hx := (lk_some hl).2
        have HQ2 : Hid (fnd t (ns.take (k + 1)) = fnd t (ns.take k) ++ [x]) := Lib.hid (by rw [HQ.out, hl])
        rw [hl, got_some hl] at HR
        have HR2 := Lib.hid (HR.out)
        rw [Option.isSome_some] at HR2
        have HX := Lib.hid fun W hJ => HF.out (fnd t (ns.take k)) W x hlen hJ
        have hx2 : x.nm = a := hx
        rw [hx2] at HX
        generalize fnd t (ns.take k) = l at *
        generalize x.bs = y at *
        clear HR HQ hl hx hx2
        go_wp2_with fail
        refine HR2.out.mono ?_
        rintro e w5 ⟨rfl, hb5⟩
        have C5 := Lib.hid (HB.out _ _ _ HC.out hb5)
        clear hb5
        go_wp2_with fail
        refine (HX.out _ C5.out).mono ?_
        rintro e w6 ⟨rfl, C6⟩
        replace C6 := Lib.hid C6
        go_wp2_with fail
        go_roundw
        case rel => exact ⟨k + 1, by omega, by go_num, by rw [HQ2.out]; exact C6.out⟩
        case measure => simp [intOf]; omega
    · obtain rfl := ek.symm
      have HE : Hid (ns.take n = ns) := Lib.hid (List.take_of_length_le (by rw [HN.out]; exact Nat.le_refl _))
      go_wp2_with fail
      go_end0
      exact ⟨rfl, by rw [← HE.out]; exact HC.out⟩
end Go.Proofs.YtememmgnhnldaaaDoor.Gen

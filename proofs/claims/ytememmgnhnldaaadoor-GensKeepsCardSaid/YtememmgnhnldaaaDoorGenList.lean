/-
  Layer 21 (gens): Names, All.
-/
import Derived.Test.YtememmgnhnldaaaDoorGenEach
namespace Go.Proofs.YtememmgnhnldaaaDoor.Gen
open Go.RowKit Go.Proofs.YtememmgnhnldaaaDoor.Own Go.Proofs.YtememmgnhnldaaaDoor.Sto
open Go.Proofs.YtememmgnhnldaaaDoor.Rw (str strs Row1 Texts own_shape texts_own strs_app one_new own_base)
open Go.Proofs.YtememmgnhnldaaaDoor.Tree (own_slice own_out out_grown own_lt)

/-- texts of the call's own -/
def ListPost (L : List Bs) (w : World) (e : Ending) (w' : World) : Prop :=
  ∃ p c n, e = .returned (.slice p n c) ∧ n = L.length ∧ Texts w' p c L ∧ Below w.heap.size w w' ∧ (p = none → c = 0) ∧ ∀ a, p = some a → ∃ g, a = ⟨g, 0, none⟩ ∧ w.heap.size ≤ g ∧ g < w'.heap.size
/-- the box, what the names lie in, the store -/
structure Start (w : World) (bs : Nat → Prop) (b : Nat) (t : St) (w2 : World) (g c : Nat) (L : List Bs) : Prop where
  sto : Sto w bs b t
  box : w2.heap[w.heap.size]? = some (.cells #[.slice none 0 0] 29 (0, 0))
  tx : Texts w2 (some ⟨g, 0, none⟩) c L
  far : w.heap.size < g
  below : Below w.heap.size w w2
theorem Start.fd {w w2 : World} {bs : Nat → Prop} {b : Nat} {t : St} {g c : Nat} {L : List Bs} (h : Start w bs b t w2 g c L) (f : Fl → Bs) : FdAt w2 w.heap.size f [] w2 :=
  ⟨at_lt h.box, ⟨_, h.box, World.ownsRow_nil _ _ _ _⟩, Out.refl _ _⟩
theorem Start.keeps {w w2 : World} {bs : Nat → Prop} {b : Nat} {t : St} {g c : Nat} {L : List Bs} (h : Start w bs b t w2 g c L) {f : Fl → Bs} {l : List Fl} {W : World} (hd : FdAt w2 w.heap.size f l W) :
    Sto W bs b t ∧ Texts W (some ⟨g, 0, none⟩) c L := by
  refine ⟨(h.sto.below h.below).out hd.out fun k hk e => ?_, row_out h.tx hd.out fun b o e => ?_⟩
  · have := h.sto.all k hk; omega
  · cases e; have := h.far; omega
theorem Start.ends {w w2 : World} {bs : Nat → Prop} {b : Nat} {t : St} {g c : Nat} {L : List Bs} (h : Start w bs b t w2 g c L) {f : Fl → Bs} {l : List Fl} {W : World} (hd : FdAt w2 w.heap.size f l W) :
    ∃ p n c', W.cell? ⟨w.heap.size, 0, none⟩ = some (.slice p n c') ∧ ListPost (l.map f) w (.returned (.slice p n c')) W := by
  obtain ⟨v, h1, h2⟩ := hd.box
  have hs := h.below.size
  have hb : Below w.heap.size w W := h.below.trans (hd.out.below hs fun i e => by omega)
  obtain ⟨p, c', rfl, hT⟩ := texts_own (ts := l.map f) h2 (by simp)
  refine ⟨p, l.length, c', at_cell h1 0, p, c', _, rfl, by simp, hT, hb, fun e => ?_, fun a e => ?_⟩
  · rcases h2.2 with ⟨e1, h0⟩ | ⟨g, cap, cur, hv, _⟩
    · injection e1
    · injection hv with e3; rw [e] at e3; cases e3
  · rcases h2.2 with ⟨e1, h0⟩ | ⟨g, cap, cur, hv, hg, hh, _⟩
    · injection e1 with e3; rw [e] at e3; cases e3
    · injection hv with e3
      rw [e] at e3
      cases e3
      exact ⟨g, rfl, by omega, at_lt hh⟩

set_option maxRecDepth 100000 in
set_option maxHeartbeats 4000000 in
theorem names_calls {w : World} {bs : Nat → Prop} {b : Nat} {t : St} (h : Sto w bs b t) (a : Bs) (ha : a.length ≤ 1000000) (n : Int) :
    Calls Tryd.prog 27 #[pb b, .string ⟨a.toArray⟩, .int .i64 n] w (ListPost ((fnd t (ser a (held n))).map Fl.nm) w) := by
  have H := Lib.hid h
  have HS := Lib.hid (series_calls a n ha)
  have HL := Lib.hid (ser_len a (held n))
  have HZ := Lib.hid fun x (hx : x ∈ ser a (held n)) => ser_size (held_bd n).2 hx
  have HK := Lib.hid (held_bd n)
  have hE := enters_of Tryd.func39 (by kernel_rfl) rfl
  replace hE := Lib.hid hE
  generalize held n = K at *
  clear h
  go_enter Tryd.func27, Tryd.ntmps27
  go_wp2_with fail
  refine (HS.out _).mono ?_
  rintro e w2 ⟨g, c, k, rfl, hk, hg, -, hT, hb⟩
  have S0 := Lib.hid (show Start w bs b t w2 g c (ser a K) from ⟨H.out, (hb.block _ (by simp)).trans (at_new w _), hT, by simp at hg; omega, ((Below.refl _ w).alloc (Nat.le_refl _) (.cells #[.slice none 0 0] 29 (0, 0))).trans (hb.mono (by simp))⟩)
  have HKK := Lib.hid hk
  have hk2 : k ≤ 1000 := by have := HL.out; have := HK.out; omega
  have HE := Lib.hid (each_calls (fun l W => FdAt w2 w.heap.size Fl.nm l W) 39 hE.out ⟨w.heap.size, 0, none⟩ (bs := bs) (b := b) (t := t) (ser a K) k HKK.out (some ⟨g, 0, none⟩) c w2 hk2 (fun x hx => by have := HZ.out x hx; omega) (S0.out.fd Fl.nm)
    (fun l W W' hJ hb => hJ.below hb) (fun l W hJ => S0.out.keeps hJ) (fun l W x hl hJ => addName_calls x hJ hl))
  clear hT hb hg hk
  go_wp2_with fail
  refine HE.out.mono ?_
  rintro e w3 ⟨rfl, hd⟩
  obtain ⟨p, m, c', c0, HP⟩ := S0.out.ends hd
  replace HP := Lib.hid HP
  clear hd
  go_wp2_with fail
  go_ret
  exact HP.out
set_option maxRecDepth 100000 in
set_option maxHeartbeats 4000000 in
theorem all_calls {w : World} {bs : Nat → Prop} {b : Nat} {t : St} (h : Sto w bs b t) (a : Bs) (ha : a.length ≤ 1000000) (n : Int) :
    Calls Tryd.prog 6 #[pb b, .string ⟨a.toArray⟩, .int .i64 n] w (ListPost ((fnd t (ser a (held n))).map Fl.bs) w) := by
  have H := Lib.hid h
  have HS := Lib.hid (series_calls a n ha)
  have HL := Lib.hid (ser_len a (held n))
  have HZ := Lib.hid fun x (hx : x ∈ ser a (held n)) => ser_size (held_bd n).2 hx
  have HK := Lib.hid (held_bd n)
  have hE := enters_of Tryd.func20 (by kernel_rfl) rfl
  replace hE := Lib.hid hE
  generalize held n = K at *
  clear h
  go_enter Tryd.func6, Tryd.ntmps6
  go_wp2_with fail
  refine (HS.out _).mono ?_
  rintro e w2 ⟨g, c, k, rfl, hk, hg, -, hT, hb⟩
  have S0 := Lib.hid (show Start w bs b t w2 g c (ser a K) from ⟨H.out, (hb.block _ (by simp)).trans (at_new w _), hT, by simp at hg; omega, ((Below.refl _ w).alloc (Nat.le_refl _) (.cells #[.slice none 0 0] 29 (0, 0))).trans (hb.mono (by simp))⟩)
  have HKK := Lib.hid hk
  have hk2 : k ≤ 1000 := by have := HL.out; have := HK.out; omega
  have HE := Lib.hid (each_calls (fun l W => FdAt w2 w.heap.size Fl.bs l W) 20 hE.out ⟨w.heap.size, 0, none⟩ (bs := bs) (b := b) (t := t) (ser a K) k HKK.out (some ⟨g, 0, none⟩) c w2 hk2 (fun x hx => by have := HZ.out x hx; omega) (S0.out.fd Fl.bs)
    (fun l W W' hJ hb => hJ.below hb) (fun l W hJ => S0.out.keeps hJ) (fun l W x hl hJ => addBytes_calls x hJ hl))
  clear hT hb hg hk
  go_wp2_with fail
  refine HE.out.mono ?_
  rintro e w3 ⟨rfl, hd⟩
  obtain ⟨p, m, c', c0, HP⟩ := S0.out.ends hd
  replace HP := Lib.hid HP
  clear hd
  go_wp2_with fail
  go_ret
  exact HP.out
end Go.Proofs.YtememmgnhnldaaaDoor.Gen

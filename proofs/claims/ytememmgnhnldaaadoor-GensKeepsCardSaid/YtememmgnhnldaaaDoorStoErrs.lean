/-
  Layer 11 (store): a store of one's own, and the errors that were told.
-/
import Derived.Test.YtememmgnhnldaaaDoorStoCall
namespace Go.Proofs.YtememmgnhnldaaaDoor.Sto
open Go.RowKit Go.Proofs.YtememmgnhnldaaaDoor.Own Go.Proofs.YtememmgnhnldaaaDoor.KM Go.Proofs.YtememmgnhnldaaaDoor.Flt
open Go.Proofs.YtememmgnhnldaaaDoor.Rw (str strs Row1)

/-- an error that is kept -/
structure Told where
  v : Value
  c : Int
  k : Nat
structure Wk (w0 w : World) (bs : Nat → Prop) (b : Nat) (t : St) (es : List Told) : Prop where
  below : Below w0.heap.size w0 w
  sto : Sto w bs b t
  mine : ∀ k, bs k → w0.heap.size ≤ k
  errs : ∀ x ∈ es, EAt w x.v x.c x.k ∧ ¬ bs x.k ∧ x.c ≠ 0
section
variable {w0 w w' : World} {bs : Nat → Prop} {b : Nat} {t t' : St} {es : List Told}
theorem Wk.same (h : Wk w0 w bs b t es) (hb : Below w.heap.size w w') : Wk w0 w' bs b t es :=
  ⟨h.below.trans (hb.mono h.below.size), h.sto.below hb, h.mine, fun x hx => ⟨(h.errs x hx).1.below hb, (h.errs x hx).2⟩⟩
theorem Wk.go (h : Wk w0 w bs b t es) {bs' : Nat → Prop} (hs : Sto w' bs' b t') (ho : Out bs w w') (hn : ∀ k, bs' k → bs k ∨ w.heap.size ≤ k) : Wk w0 w' bs' b t' es := by
  have hsz := h.below.size
  refine ⟨h.below.trans (ho.below hsz fun i hi => h.mine i hi), hs, fun k hk => ?_, fun x hx => ?_⟩
  · rcases hn k hk with h1 | h1
    · exact h.mine k h1
    · omega
  · obtain ⟨h1, h2, hc0⟩ := h.errs x hx
    refine ⟨h1.kept fun hl => ho.block _ hl h2, fun hk => ?_, hc0⟩
    rcases hn _ hk with h3 | h3
    · exact h2 h3
    · rcases h1 with ⟨hc, _⟩ | ⟨_, _, hh⟩
      · exact hc0 hc
      · have := at_lt hh; omega
theorem Wk.does (h : Wk w0 w bs b t es) (hd : Does w bs w' b t') : ∃ bs', Wk w0 w' bs' b t' es := by
  obtain ⟨bs', hs, ho, hn⟩ := hd
  exact ⟨bs', h.go hs ho hn⟩
theorem Wk.ok {e : Ending} (h : Wk w0 w bs b t es) (hd : DoesE w bs e w' b t' 0) : e = .returned .nilIface ∧ ∃ bs', Wk w0 w' bs' b t' es := by
  obtain ⟨v, k, bs', he, hE, -, hs, ho, hn⟩ := hd
  rcases hE with ⟨_, rfl⟩ | ⟨hc, _⟩
  · exact ⟨he, bs', h.go hs ho hn⟩
  · exact absurd rfl hc
theorem Wk.err {e : Ending} {c : Int} (h : Wk w0 w bs b t es) (hc : c ≠ 0) (hd : DoesE w bs e w' b t' c) : ∃ k bs', e = .returned (.iface 110 (.pointer (some ⟨k, 0, none⟩))) ∧ Wk w0 w' bs' b t' (⟨.iface 110 (.pointer (some ⟨k, 0, none⟩)), c, k⟩ :: es) := by
  obtain ⟨v, k, bs', he, hE, hk, hs, ho, hn⟩ := hd
  rcases hE with ⟨h0, _⟩ | ⟨_, rfl, hh⟩
  · exact absurd h0 hc
  · refine ⟨k, bs', he, ?_⟩
    have hg := h.go hs ho hn
    refine ⟨hg.below, hg.sto, hg.mine, fun x hx => ?_⟩
    rcases List.mem_cons.1 hx with rfl | hx
    · exact ⟨.inr ⟨hc, rfl, hh⟩, (hk hc).2, hc⟩
    · exact hg.errs x hx
theorem EAt.errN {v : Value} {c : Int} {k : Nat} (h : EAt w v c k) : ∃ l N, N ≤ w.heap.size ∧ ErrN w N v l c := by
  rcases h with ⟨rfl, rfl⟩ | ⟨hc, rfl, hh⟩
  · exact ⟨[], 0, Nat.zero_le _, .inl ⟨rfl, rfl, rfl⟩⟩
  · exact ⟨[⟨k, 0, []⟩], k + 1, at_lt hh, .inr ⟨rfl, Nat.lt_succ_self _, _, hh, rfl⟩⟩
/-- the code of such an error -/
theorem of_told {v : Value} {c : Int} {k : Nat} (h : EAt w v c k) (hT : Tab w) : Calls Tryd.prog 28 #[v] w fun e w' => e = .returned (.int .i64 c) ∧ Below w.heap.size w w' := by
  obtain ⟨l, N, hN, hE⟩ := h.errN
  exact of_calls v l c N w hE hN hT
end
end Go.Proofs.YtememmgnhnldaaaDoor.Sto

/-
Layer 15 (conf): Load, walked.
Layer 15 (conf): Is.
Layer 15 (conf): the law's example, plain.
Layer 15 (conf): the law's example, walked.
A region that draws its order, with guards and stores: each operation told once, whatever the order.
-/
import Derived.Test.YtajfdachpdkbcaaGreatDoorPack13
section
namespace Go.Proofs.YtajfdachpdkbcaaGreatDoor.Conf
open Go.RowKit Go.Proofs.YtajfdachpdkbcaaGreatDoor.Own Go.Proofs.YtajfdachpdkbcaaGreatDoor.Rw Go.Proofs.YtajfdachpdkbcaaGreatDoor.Tree Go.Proofs.YtajfdachpdkbcaaGreatDoor.KM

section
variable {w : World} {b : Nat} {x0 x1 x2 x3 x4 x5 x6 x7 x8 x9 x10 x11 x12 x13 y0 y1 y2 y3 y4 y5 y6 y7 y8 y9 y10 y11 y12 y13 : Value} {T : TypeId}
theorem set14_row (h : w.heap[b]? = some (.cells #[x0, x1, x2, x3, x4, x5, x6, x7, x8, x9, x10, x11, x12, x13] T (0, 0))) : ((((((((((((((w.setCell ⟨b, 0, none⟩ y0).setCell ⟨b, 1, none⟩ y1).setCell ⟨b, 2, none⟩ y2).setCell ⟨b, 3, none⟩ y3).setCell ⟨b, 4, none⟩ y4).setCell ⟨b, 5, none⟩ y5).setCell ⟨b, 6, none⟩ y6).setCell ⟨b, 7, none⟩ y7).setCell ⟨b, 8, none⟩ y8).setCell ⟨b, 9, none⟩ y9).setCell ⟨b, 10, none⟩ y10).setCell ⟨b, 11, none⟩ y11).setCell ⟨b, 12, none⟩ y12).setCell ⟨b, 13, none⟩ y13).heap[b]? = some (.cells #[y0, y1, y2, y3, y4, y5, y6, y7, y8, y9, y10, y11, y12, y13] T (0, 0)) := by
  have h0 : (w.setCell ⟨b, 0, none⟩ y0).heap[b]? = some (.cells #[y0, x1, x2, x3, x4, x5, x6, x7, x8, x9, x10, x11, x12, x13] T (0, 0)) := at_set h 0 y0
  have h1 : ((w.setCell ⟨b, 0, none⟩ y0).setCell ⟨b, 1, none⟩ y1).heap[b]? = some (.cells #[y0, y1, x2, x3, x4, x5, x6, x7, x8, x9, x10, x11, x12, x13] T (0, 0)) := at_set h0 1 y1
  have h2 : (((w.setCell ⟨b, 0, none⟩ y0).setCell ⟨b, 1, none⟩ y1).setCell ⟨b, 2, none⟩ y2).heap[b]? = some (.cells #[y0, y1, y2, x3, x4, x5, x6, x7, x8, x9, x10, x11, x12, x13] T (0, 0)) := at_set h1 2 y2
  have h3 : ((((w.setCell ⟨b, 0, none⟩ y0).setCell ⟨b, 1, none⟩ y1).setCell ⟨b, 2, none⟩ y2).setCell ⟨b, 3, none⟩ y3).heap[b]? = some (.cells #[y0, y1, y2, y3, x4, x5, x6, x7, x8, x9, x10, x11, x12, x13] T (0, 0)) := at_set h2 3 y3
  have h4 : (((((w.setCell ⟨b, 0, none⟩ y0).setCell ⟨b, 1, none⟩ y1).setCell ⟨b, 2, none⟩ y2).setCell ⟨b, 3, none⟩ y3).setCell ⟨b, 4, none⟩ y4).heap[b]? = some (.cells #[y0, y1, y2, y3, y4, x5, x6, x7, x8, x9, x10, x11, x12, x13] T (0, 0)) := at_set h3 4 y4
  have h5 : ((((((w.setCell ⟨b, 0, none⟩ y0).setCell ⟨b, 1, none⟩ y1).setCell ⟨b, 2, none⟩ y2).setCell ⟨b, 3, none⟩ y3).setCell ⟨b, 4, none⟩ y4).setCell ⟨b, 5, none⟩ y5).heap[b]? = some (.cells #[y0, y1, y2, y3, y4, y5, x6, x7, x8, x9, x10, x11, x12, x13] T (0, 0)) := at_set h4 5 y5
  have h6 : (((((((w.setCell ⟨b, 0, none⟩ y0).setCell ⟨b, 1, none⟩ y1).setCell ⟨b, 2, none⟩ y2).setCell ⟨b, 3, none⟩ y3).setCell ⟨b, 4, none⟩ y4).setCell ⟨b, 5, none⟩ y5).setCell ⟨b, 6, none⟩ y6).heap[b]? = some (.cells #[y0, y1, y2, y3, y4, y5, y6, x7, x8, x9, x10, x11, x12, x13] T (0, 0)) := at_set h5 6 y6
  have h7 : ((((((((w.setCell ⟨b, 0, none⟩ y0).setCell ⟨b, 1, none⟩ y1).setCell ⟨b, 2, none⟩ y2).setCell ⟨b, 3, none⟩ y3).setCell ⟨b, 4, none⟩ y4).setCell ⟨b, 5, none⟩ y5).setCell ⟨b, 6, none⟩ y6).setCell ⟨b, 7, none⟩ y7).heap[b]? = some (.cells #[y0, y1, y2, y3, y4, y5, y6, y7, x8, x9, x10, x11, x12, x13] T (0, 0)) := at_set h6 7 y7
  have h8 : (((((((((w.setCell ⟨b, 0, none⟩ y0).setCell ⟨b, 1, none⟩ y1).setCell ⟨b, 2, none⟩ y2).setCell ⟨b, 3, none⟩ y3).setCell ⟨b, 4, none⟩ y4).setCell ⟨b, 5, none⟩ y5).setCell ⟨b, 6, none⟩ y6).setCell ⟨b, 7, none⟩ y7).setCell ⟨b, 8, none⟩ y8).heap[b]? = some (.cells #[y0, y1, y2, y3, y4, y5, y6, y7, y8, x9, x10, x11, x12, x13] T (0, 0)) := at_set h7 8 y8
  have h9 : ((((((((((w.setCell ⟨b, 0, none⟩ y0).setCell ⟨b, 1, none⟩ y1).setCell ⟨b, 2, none⟩ y2).setCell ⟨b, 3, none⟩ y3).setCell ⟨b, 4, none⟩ y4).setCell ⟨b, 5, none⟩ y5).setCell ⟨b, 6, none⟩ y6).setCell ⟨b, 7, none⟩ y7).setCell ⟨b, 8, none⟩ y8).setCell ⟨b, 9, none⟩ y9).heap[b]? = some (.cells #[y0, y1, y2, y3, y4, y5, y6, y7, y8, y9, x10, x11, x12, x13] T (0, 0)) := at_set h8 9 y9
  have h10 : (((((((((((w.setCell ⟨b, 0, none⟩ y0).setCell ⟨b, 1, none⟩ y1).setCell ⟨b, 2, none⟩ y2).setCell ⟨b, 3, none⟩ y3).setCell ⟨b, 4, none⟩ y4).setCell ⟨b, 5, none⟩ y5).setCell ⟨b, 6, none⟩ y6).setCell ⟨b, 7, none⟩ y7).setCell ⟨b, 8, none⟩ y8).setCell ⟨b, 9, none⟩ y9).setCell ⟨b, 10, none⟩ y10).heap[b]? = some (.cells #[y0, y1, y2, y3, y4, y5, y6, y7, y8, y9, y10, x11, x12, x13] T (0, 0)) := at_set h9 10 y10
  have h11 : ((((((((((((w.setCell ⟨b, 0, none⟩ y0).setCell ⟨b, 1, none⟩ y1).setCell ⟨b, 2, none⟩ y2).setCell ⟨b, 3, none⟩ y3).setCell ⟨b, 4, none⟩ y4).setCell ⟨b, 5, none⟩ y5).setCell ⟨b, 6, none⟩ y6).setCell ⟨b, 7, none⟩ y7).setCell ⟨b, 8, none⟩ y8).setCell ⟨b, 9, none⟩ y9).setCell ⟨b, 10, none⟩ y10).setCell ⟨b, 11, none⟩ y11).heap[b]? = some (.cells #[y0, y1, y2, y3, y4, y5, y6, y7, y8, y9, y10, y11, x12, x13] T (0, 0)) := at_set h10 11 y11
  have h12 : (((((((((((((w.setCell ⟨b, 0, none⟩ y0).setCell ⟨b, 1, none⟩ y1).setCell ⟨b, 2, none⟩ y2).setCell ⟨b, 3, none⟩ y3).setCell ⟨b, 4, none⟩ y4).setCell ⟨b, 5, none⟩ y5).setCell ⟨b, 6, none⟩ y6).setCell ⟨b, 7, none⟩ y7).setCell ⟨b, 8, none⟩ y8).setCell ⟨b, 9, none⟩ y9).setCell ⟨b, 10, none⟩ y10).setCell ⟨b, 11, none⟩ y11).setCell ⟨b, 12, none⟩ y12).heap[b]? = some (.cells #[y0, y1, y2, y3, y4, y5, y6, y7, y8, y9, y10, y11, y12, x13] T (0, 0)) := at_set h11 12 y12
  have h13 : ((((((((((((((w.setCell ⟨b, 0, none⟩ y0).setCell ⟨b, 1, none⟩ y1).setCell ⟨b, 2, none⟩ y2).setCell ⟨b, 3, none⟩ y3).setCell ⟨b, 4, none⟩ y4).setCell ⟨b, 5, none⟩ y5).setCell ⟨b, 6, none⟩ y6).setCell ⟨b, 7, none⟩ y7).setCell ⟨b, 8, none⟩ y8).setCell ⟨b, 9, none⟩ y9).setCell ⟨b, 10, none⟩ y10).setCell ⟨b, 11, none⟩ y11).setCell ⟨b, 12, none⟩ y12).setCell ⟨b, 13, none⟩ y13).heap[b]? = some (.cells #[y0, y1, y2, y3, y4, y5, y6, y7, y8, y9, y10, y11, y12, y13] T (0, 0)) := at_set h12 13 y13
  exact h13
end
theorem set14_out (w : World) (b : Nat) (y0 y1 y2 y3 y4 y5 y6 y7 y8 y9 y10 y11 y12 y13 : Value) : Out (fun k => k = b) w ((((((((((((((w.setCell ⟨b, 0, none⟩ y0).setCell ⟨b, 1, none⟩ y1).setCell ⟨b, 2, none⟩ y2).setCell ⟨b, 3, none⟩ y3).setCell ⟨b, 4, none⟩ y4).setCell ⟨b, 5, none⟩ y5).setCell ⟨b, 6, none⟩ y6).setCell ⟨b, 7, none⟩ y7).setCell ⟨b, 8, none⟩ y8).setCell ⟨b, 9, none⟩ y9).setCell ⟨b, 10, none⟩ y10).setCell ⟨b, 11, none⟩ y11).setCell ⟨b, 12, none⟩ y12).setCell ⟨b, 13, none⟩ y13) := by
  have s : ∀ {a : World} (j : Nat) (u : Value), Out (fun k => k = b) w a → Out (fun k => k = b) w (a.setCell ⟨b, j, none⟩ u) := fun j u h => Own.Out.setCell (S := fun k => k = b) h (p := ⟨b, j, none⟩) (fun _ => rfl) u
  exact s _ _ (s _ _ (s _ _ (s _ _ (s _ _ (s _ _ (s _ _ (s _ _ (s _ _ (s _ _ (s _ _ (s _ _ (s _ _ (s _ _ (Own.Out.refl _ _))))))))))))))
def zeroC : Array Value := #[.slice none 0 0, .slice none 0 0, .slice none 0 0, .slice none 0 0, .string ⟨#[]⟩, .string ⟨#[]⟩, .string ⟨#[]⟩, .string ⟨#[]⟩, .string ⟨#[]⟩, .string ⟨#[]⟩, .string ⟨#[]⟩, .string ⟨#[]⟩, .string ⟨#[]⟩, .string ⟨#[]⟩]
theorem zero_str {j : Nat} {t : Bs} (h : zeroC[j]? = some (str t)) : t = [] := by
  have hj : j < 14 := by have := (Array.getElem?_eq_some_iff.1 h).1; simpa [zeroC] using this
  obtain rfl | rfl | rfl | rfl | rfl | rfl | rfl | rfl | rfl | rfl | rfl | rfl | rfl | rfl : j = 0 ∨ j = 1 ∨ j = 2 ∨ j = 3 ∨ j = 4 ∨ j = 5 ∨ j = 6 ∨ j = 7 ∨ j = 8 ∨ j = 9 ∨ j = 10 ∨ j = 11 ∨ j = 12 ∨ j = 13 := by omega
  all_goals (simp [zeroC, str] at h; try (first | exact h | exact h.symm))
theorem pat_some {t : Bs} (h : Word.isPat t = true) : t ≠ [] := by rintro rfl; exact absurd h (by decide)
section
variable {B R : Nat} {T : TypeId} {w w' : World}
theorem tx_out {p : Option Addr} {c : Nat} {ts : List Bs} (h : TxB B w p c ts) (hz : w.heap[R]? = some (.cells zeroC T (0, 0))) (ht : ∀ t ∈ ts, t ≠ []) (ho : Out (fun k => k = R) w w') (hB : B ≤ w.heap.size) : TxB w'.heap.size w' p c ts := by
  refine ⟨⟨h.tx.row.cap, h.tx.row.max, ?_⟩, fun a e => by have := h.low a e; have := ho.size; omega, h.nil⟩
  rcases h.tx.row.cells with h0 | ⟨b, o, rfl, hl, k⟩
  · exact .inl h0
  · cases ts with
    | nil => exact .inl rfl
    | cons t0 r =>
      have hne : b ≠ R := by
        rintro rfl
        have := k 0 (str t0) rfl
        rw [at_cell hz] at this
        exact absurd (zero_str this) (ht t0 (List.mem_cons_self ..))
      exact .inr ⟨b, o, rfl, Nat.lt_of_lt_of_le hl ho.size, fun i x hx => (ho.cell (p := ⟨b, o + i, none⟩) hl hne).trans (k i x hx)⟩
theorem gs_out {cs : List Value} {L : List (Bs × List Bs)} (h : Gs B w cs L) (hz : w.heap[R]? = some (.cells zeroC T (0, 0))) (hL : ∀ g ∈ L, ∀ t ∈ g.2, t ≠ []) (ho : Out (fun k => k = R) w w') (hB : B ≤ w.heap.size) : Gs w'.heap.size w' cs L := by
  induction h with
  | nil => exact .nil
  | cons h _ ih => exact .cons (tx_out h hz (hL _ (List.mem_cons_self ..)) ho hB) (ih fun g hg => hL g (List.mem_cons_of_mem _ hg))
theorem cf_out {v0 v1 v2 v3 : Value} {c : Cf} (h : CfO B w v0 v1 v2 v3 c) (hz : w.heap[R]? = some (.cells zeroC T (0, 0))) (hR : R < B) (hc : OkC c) (ho : Out (fun k => k = R) w w') (hB : B ≤ w.heap.size) : CfR w' v0 v1 v2 v3 c := by
  obtain ⟨gs, o2, g2⟩ := h.grps
  obtain ⟨p1, k1, e1, r1⟩ := own_rd (own_out h.cons ho fun k e he => by have := (own_lt h.cons e).1; have he : k = R := he; omega)
  obtain ⟨p2, k2, e2, r2⟩ := own_rd (own_out o2 ho fun k e he => by have := (own_lt o2 e).1; have he : k = R := he; omega)
  obtain ⟨p3, k3, e3, r3⟩ := own_rd (own_out h.usrs ho fun k e he => by have := (own_lt h.usrs e).1; have he : k = R := he; omega)
  obtain ⟨p4, k4, e4, r4⟩ := own_rd (own_out h.accs ho fun k e he => by have := (own_lt h.accs e).1; have he : k = R := he; omega)
  exact ⟨⟨p1, k1, e1, r1⟩, ⟨p2, k2, gs, e2, r2, gs_out g2 hz (fun g hg t ht => pat_some (List.all_eq_true.1 (hc.grps g hg).2.2.1 t ht)) ho hB⟩, ⟨p3, k3, e3, r3⟩, ⟨p4, k4, e4, r4⟩⟩
end
theorem readT_code {s : Bs} {c n : Int} (h : readT s = .err c n) : c ≠ 0 := by
  unfold readT at h
  split at h
  · cases h; exact total_code (by assumption)
  · split at h
    · cases h; exact alls_code _ _ _ _ _ _ (by assumption)
    · cases h
theorem lim_ok {c : Cf} (h : OkC c) : Lim c := ⟨by have := h.grpsL; omega, by have := h.usrsL; omega, by have := h.accsL; omega⟩
theorem LoAt.ok {w1 wr w' : World} {lb mb : Nat} {L : List Nd} {r : Rz Cf} {k : Nat} {s s' : Sa} (h : LoAt w1 wr lb mb L r k s) (hk : k < L.length) {n : Nd} (hn : L[k] = n) (ha : n.args.length ≤ 16) (h0 : stepM s n = .ok s') (hl : LdS w1.heap.size lb mb s'.us s'.cf w') (hb : Below w1.heap.size wr w') : LoAt w1 w' lb mb L r (k + 1) s' := by
  refine ⟨hl, h.below.trans hb, step_ok h.good ha h0, ?_⟩
  have := h.left
  rw [List.drop_eq_getElem_cons hk, hn, fold_ok h0] at this
  exact this
theorem LoAt.bad {w1 wr : World} {lb mb : Nat} {L : List Nd} {r : Rz Cf} {k : Nat} {s : Sa} (h : LoAt w1 wr lb mb L r k s) (hk : k < L.length) {n : Nd} (hn : L[k] = n) {c l : Int} (h0 : stepM s n = .bad c l) : r = .bad c l := by
  have := h.left
  rw [List.drop_eq_getElem_cons hk, hn, fold_bad h0] at this
  exact this.symm
theorem bad_post {w1 w2 : World} {b : Nat} {v : Value} {c n : Int} (he : ErL w1 v c n) {C : Array Value} {T : TypeId} (hc : w1.heap[b]? = some (.cells C T (0, 0))) (hT : T ≠ 99) (ho : Out (fun k => k = b) w1 w2) : ErL w2 v c n := by
  obtain ⟨⟨lay, h1, h2, h3⟩, h4⟩ := he
  exact ⟨⟨lay, (errN_apart hc hT ho h1).imp id fun h => h.more ho.size, h2, h3⟩, h4⟩

set_option maxRecDepth 100000 in
set_option maxHeartbeats 8000000 in
theorem load_calls (s : Bs) (w : World) : Calls Tryz.prog 7 #[.string ⟨s.toArray⟩] w (LdPost w (loadT s)) := by
  have HR := Lib.hid (Tree.read_calls ⟨s.toArray⟩)
  rw [show (⟨s.toArray⟩ : ByteArray).data.toList = s from rfl] at HR
  obtain ⟨rz, hrz⟩ : ∃ rz, loadT s = rz := ⟨_, rfl⟩
  rw [hrz]
  have HZ := Lib.hid hrz
  clear hrz
  have A0 := Lib.hid ((Below.refl w.heap.size w).alloc (Nat.le_refl _) (.cells zeroC 29))
  have N0 := Lib.hid (at_new w (.cells zeroC 29))
  unfold zeroC at A0 N0
  go_enter Tryz.func7, Tryz.ntmps7
  go_wp2_with fail
  refine (HR.out _).mono ?_
  rintro e w1 ⟨v, u, rfl, h1⟩
  have N1 := Lib.hid ((h1.below.block _ (at_lt N0.out)).trans N0.out)
  have B1 := Lib.hid (A0.out.trans (h1.below.mono A0.out.size))
  have lR := at_lt N1.out
  cases ht : readT s with
  | err c n =>
    rw [ht] at h1
    have hc := readT_code ht
    obtain ⟨T, x, rfl⟩ := h1.some hc
    have HZ2 := Lib.hid (show rz = .bad c n by rw [← HZ.out]; unfold loadT; rw [ht])
    have HE := Lib.hid (show ErL w1 (.iface T x) c n from ⟨h1.err, _, _, rfl⟩)
    clear h1 ht hc
    have c0 := (at_cell N1.out 0 : _ = some (Value.slice none 0 0))
    have f0 := at_frozen N1.out 0
    have c1 := (at_cell N1.out 1 : _ = some (Value.slice none 0 0))
    have f1 := at_frozen N1.out 1
    have c2 := (at_cell N1.out 2 : _ = some (Value.slice none 0 0))
    have f2 := at_frozen N1.out 2
    have c3 := (at_cell N1.out 3 : _ = some (Value.slice none 0 0))
    have f3 := at_frozen N1.out 3
    have c4 := (at_cell N1.out 4 : _ = some (Value.string ⟨#[]⟩))
    have f4 := at_frozen N1.out 4
    have c5 := (at_cell N1.out 5 : _ = some (Value.string ⟨#[]⟩))
    have f5 := at_frozen N1.out 5
    have c6 := (at_cell N1.out 6 : _ = some (Value.string ⟨#[]⟩))
    have f6 := at_frozen N1.out 6
    have c7 := (at_cell N1.out 7 : _ = some (Value.string ⟨#[]⟩))
    have f7 := at_frozen N1.out 7
    have c8 := (at_cell N1.out 8 : _ = some (Value.string ⟨#[]⟩))
    have f8 := at_frozen N1.out 8
    have c9 := (at_cell N1.out 9 : _ = some (Value.string ⟨#[]⟩))
    have f9 := at_frozen N1.out 9
    have c10 := (at_cell N1.out 10 : _ = some (Value.string ⟨#[]⟩))
    have f10 := at_frozen N1.out 10
    have c11 := (at_cell N1.out 11 : _ = some (Value.string ⟨#[]⟩))
    have f11 := at_frozen N1.out 11
    have c12 := (at_cell N1.out 12 : _ = some (Value.string ⟨#[]⟩))
    have f12 := at_frozen N1.out 12
    have c13 := (at_cell N1.out 13 : _ = some (Value.string ⟨#[]⟩))
    have f13 := at_frozen N1.out 13
    go_wp2_with fail
    have N2 := set14_row (y0 := .slice none 0 0) (y1 := .slice none 0 0) (y2 := .slice none 0 0) (y3 := .slice none 0 0) (y4 := .string ⟨#[]⟩) (y5 := .string ⟨#[]⟩) (y6 := .string ⟨#[]⟩) (y7 := .string ⟨#[]⟩) (y8 := .string ⟨#[]⟩) (y9 := .string ⟨#[]⟩) (y10 := .string ⟨#[]⟩) (y11 := .string ⟨#[]⟩) (y12 := .string ⟨#[]⟩) (y13 := .string ⟨#[]⟩) N1.out
    have O2 := set14_out w1 w.heap.size (.slice none 0 0) (.slice none 0 0) (.slice none 0 0) (.slice none 0 0) (.string ⟨#[]⟩) (.string ⟨#[]⟩) (.string ⟨#[]⟩) (.string ⟨#[]⟩) (.string ⟨#[]⟩) (.string ⟨#[]⟩) (.string ⟨#[]⟩) (.string ⟨#[]⟩) (.string ⟨#[]⟩) (.string ⟨#[]⟩)
    generalize ((((((((((((((w1.setCell ⟨w.heap.size, 0, none⟩ (.slice none 0 0)).setCell ⟨w.heap.size, 1, none⟩ (.slice none 0 0)).setCell ⟨w.heap.size, 2, none⟩ (.slice none 0 0)).setCell ⟨w.heap.size, 3, none⟩ (.slice none 0 0)).setCell ⟨w.heap.size, 4, none⟩ (.string ⟨#[]⟩)).setCell ⟨w.heap.size, 5, none⟩ (.string ⟨#[]⟩)).setCell ⟨w.heap.size, 6, none⟩ (.string ⟨#[]⟩)).setCell ⟨w.heap.size, 7, none⟩ (.string ⟨#[]⟩)).setCell ⟨w.heap.size, 8, none⟩ (.string ⟨#[]⟩)).setCell ⟨w.heap.size, 9, none⟩ (.string ⟨#[]⟩)).setCell ⟨w.heap.size, 10, none⟩ (.string ⟨#[]⟩)).setCell ⟨w.heap.size, 11, none⟩ (.string ⟨#[]⟩)).setCell ⟨w.heap.size, 12, none⟩ (.string ⟨#[]⟩)).setCell ⟨w.heap.size, 13, none⟩ (.string ⟨#[]⟩)) = w2 at N2 O2 ⊢
    clear c0 f0 c1 f1 c2 f2 c3 f3 c4 f4 c5 f5 c6 f6 c7 f7 c8 f8 c9 f9 c10 f10 c11 f11 c12 f12 c13 f13
    have c0 := (at_cell N2 0 : _ = some (Value.slice none 0 0))
    have f0 := at_frozen N2 0
    have c1 := (at_cell N2 1 : _ = some (Value.slice none 0 0))
    have f1 := at_frozen N2 1
    have c2 := (at_cell N2 2 : _ = some (Value.slice none 0 0))
    have f2 := at_frozen N2 2
    have c3 := (at_cell N2 3 : _ = some (Value.slice none 0 0))
    have f3 := at_frozen N2 3
    have c4 := (at_cell N2 4 : _ = some (Value.string ⟨#[]⟩))
    have f4 := at_frozen N2 4
    have c5 := (at_cell N2 5 : _ = some (Value.string ⟨#[]⟩))
    have f5 := at_frozen N2 5
    have c6 := (at_cell N2 6 : _ = some (Value.string ⟨#[]⟩))
    have f6 := at_frozen N2 6
    have c7 := (at_cell N2 7 : _ = some (Value.string ⟨#[]⟩))
    have f7 := at_frozen N2 7
    have c8 := (at_cell N2 8 : _ = some (Value.string ⟨#[]⟩))
    have f8 := at_frozen N2 8
    have c9 := (at_cell N2 9 : _ = some (Value.string ⟨#[]⟩))
    have f9 := at_frozen N2 9
    have c10 := (at_cell N2 10 : _ = some (Value.string ⟨#[]⟩))
    have f10 := at_frozen N2 10
    have c11 := (at_cell N2 11 : _ = some (Value.string ⟨#[]⟩))
    have f11 := at_frozen N2 11
    have c12 := (at_cell N2 12 : _ = some (Value.string ⟨#[]⟩))
    have f12 := at_frozen N2 12
    have c13 := (at_cell N2 13 : _ = some (Value.string ⟨#[]⟩))
    have f13 := at_frozen N2 13
    refine bodyPost_ret (v := .tuple #[confV (.slice none 0 0) (.slice none 0 0) (.slice none 0 0) (.slice none 0 0) [] [] [] [] [] [] [] [] [] [], .iface T x]) ?_ rfl ?_
    · simp [results, Tryz.results7, go_sem, confV, *]
    · rw [HZ2.out]
      exact LdPost.bad (bad_post HE.out N1.out (by decide) O2) (B1.out.trans (O2.below (by have := B1.out.size; omega) fun k e => by have e : k = w.heap.size := e; omega))
  | ok L =>
    rw [ht] at h1
    obtain rfl := h1.none rfl
    have hs := readT_le ht
    obtain ⟨hwb, hfew⟩ := readT_few ht
    have HZ2 := Lib.hid (show loadL L = rz by rw [← HZ.out, load_ok ht])
    obtain ⟨pn, cn, rfl⟩ := h1.fo.shape
    have HNl := Lib.hid (fo_nl h1.fo)
    obtain ⟨n, hn⟩ : ∃ n, n = L.length := ⟨_, rfl⟩
    rw [show Tr.nds (.ok L) = L from rfl, ← hn] at HNl ⊢
    have HN := Lib.hid hn
    have HWB := Lib.hid (show wbL L ≤ 65536 by omega)
    have HFW := Lib.hid hfew
    obtain ⟨_, _, hv, hcn, hcm⟩ := HNl.out.shape
    injection hv with e1 z1 e2
    subst e1 e2
    clear z1
    rw [← hn] at hcn
    unfold maxLen at hcm
    have HNW := Lib.hid (newLoader_calls w1)
    unfold NewPost at HNW
    clear h1 ht hs hwb hfew hn
    go_wp2_with fail
    refine HNW.out.mono ?_
    rintro e w2 ⟨lb, mb, rfl, hL2, hb2⟩
    have S0 : Hid (LoAt w1 w2 lb mb L rz 0 ⟨empty, usual⟩) := Lib.hid ⟨⟨_, _, _, _, _, _, hL2, fun a => ⟨rfl, rfl, rfl⟩⟩, hb2, ⟨ok_empty, ok_usual⟩, by rw [← HZ2.out]; rfl⟩
    clear hL2 hb2 HNW
    go_wp2_with fail
    go_loopw [22] (fun i wr => ∃ (k : Nat) (s : Sa), k ≤ n ∧ i = .int .i64 k ∧ LoAt w1 wr lb mb L rz k s) (fun i _ => n - (intOf i).toNat)
    case atStart => exact ⟨0, _, by omega, rfl, S0.out⟩
    case round =>
      obtain ⟨k, sa, hk, rfl, C⟩ := hrel
      rename World => wr
      have HC := Lib.hid C
      have hsz := C.below.size
      clear C S0
      rcases Nat.lt_or_eq_of_le hk with hlt | rfl
      · have hl1 : k < L.length := by rw [← HN.out]; exact hlt
        obtain ⟨g, pa, ca, pl, cl, rfl, hgB, hg, ⟨c0, c1, c2, c3, c4⟩, hnd⟩ := (HNl.out.keep HC.out.below).at_ hl1
        have q1 : (k : Int) < (n : Int) := by omega
        have hw := wbL_at hl1
        have hfk := HFW.out _ (List.getElem_mem hl1)
        have HGO := Lib.hid fun (s' : Sa) (w' : World) h0 hl hb => HC.out.ok (s' := s') (w' := w') hl1 rfl hfk h0 hl hb
        have HBD := Lib.hid fun (c l : Int) h0 => HC.out.bad (c := c) (l := l) hl1 rfl h0
        have hWB := HWB.out
        have hgd := HC.out.good.cf
        have HT := Lib.hid fun (W : World) (hW : Below wr.heap.size wr W) => take_calls L[k] (by omega) pa pl ca cl w1.heap.size lb mb sa (lim_ok hgd) (by have := hgd.consL; omega) W (HC.out.lds.below hW) (hnd.keep (hW.mono hsz))
        have HBK := Lib.hid ((Below.refl wr.heap.size wr).alloc (Nat.le_refl _) (.cells (ndA L[k].key pa L[k].args.length ca L[k].block pl L[k].list.length cl L[k].line) 57))
        have NR := Lib.hid ((HC.out.below.block _ lR).trans N1.out)
        generalize L[k] = m at *
        unfold ndV at HT
        unfold ndA at HBK
        clear hnd hw hfk hl1 hWB hgd
        generalize stepM sa m = rs at *
        obtain ⟨key, args, block, list, line⟩ := m
        simp only [Nd.key, Nd.args, Nd.block, Nd.list, Nd.line] at *
        generalize args.length = na at *
        generalize list.length = nl at *
        go_wp2_with fail
        refine (HT.out _ HBK.out).mono ?_
        intro e w5 hp
        cases hp with
        | @bad v c l _ he hb =>
          have HR3 := Lib.hid (HBD.out c l rfl)
          have HE := Lib.hid (er_line he)
          obtain ⟨gf, rfl, hf⟩ := he
          have B5 := Lib.hid (HC.out.below.trans ((HBK.out.mono hsz).trans hb))
          have N5 := Lib.hid ((B5.out.block _ lR).trans N1.out)
          have l5 := at_lt N5.out
          clear hb c0 c1 c2 c3 c4 HT HGO HBD hf
          have c0 := (at_cell N5.out 0 : _ = some (Value.slice none 0 0))
          have f0 := at_frozen N5.out 0
          have c1 := (at_cell N5.out 1 : _ = some (Value.slice none 0 0))
          have f1 := at_frozen N5.out 1
          have c2 := (at_cell N5.out 2 : _ = some (Value.slice none 0 0))
          have f2 := at_frozen N5.out 2
          have c3 := (at_cell N5.out 3 : _ = some (Value.slice none 0 0))
          have f3 := at_frozen N5.out 3
          have c4 := (at_cell N5.out 4 : _ = some (Value.string ⟨#[]⟩))
          have f4 := at_frozen N5.out 4
          have c5 := (at_cell N5.out 5 : _ = some (Value.string ⟨#[]⟩))
          have f5 := at_frozen N5.out 5
          have c6 := (at_cell N5.out 6 : _ = some (Value.string ⟨#[]⟩))
          have f6 := at_frozen N5.out 6
          have c7 := (at_cell N5.out 7 : _ = some (Value.string ⟨#[]⟩))
          have f7 := at_frozen N5.out 7
          have c8 := (at_cell N5.out 8 : _ = some (Value.string ⟨#[]⟩))
          have f8 := at_frozen N5.out 8
          have c9 := (at_cell N5.out 9 : _ = some (Value.string ⟨#[]⟩))
          have f9 := at_frozen N5.out 9
          have c10 := (at_cell N5.out 10 : _ = some (Value.string ⟨#[]⟩))
          have f10 := at_frozen N5.out 10
          have c11 := (at_cell N5.out 11 : _ = some (Value.string ⟨#[]⟩))
          have f11 := at_frozen N5.out 11
          have c12 := (at_cell N5.out 12 : _ = some (Value.string ⟨#[]⟩))
          have f12 := at_frozen N5.out 12
          have c13 := (at_cell N5.out 13 : _ = some (Value.string ⟨#[]⟩))
          have f13 := at_frozen N5.out 13
          go_wp2_with fail
          have N2 := set14_row (y0 := .slice none 0 0) (y1 := .slice none 0 0) (y2 := .slice none 0 0) (y3 := .slice none 0 0) (y4 := .string ⟨#[]⟩) (y5 := .string ⟨#[]⟩) (y6 := .string ⟨#[]⟩) (y7 := .string ⟨#[]⟩) (y8 := .string ⟨#[]⟩) (y9 := .string ⟨#[]⟩) (y10 := .string ⟨#[]⟩) (y11 := .string ⟨#[]⟩) (y12 := .string ⟨#[]⟩) (y13 := .string ⟨#[]⟩) N5.out
          have O2 := set14_out w5 w.heap.size (.slice none 0 0) (.slice none 0 0) (.slice none 0 0) (.slice none 0 0) (.string ⟨#[]⟩) (.string ⟨#[]⟩) (.string ⟨#[]⟩) (.string ⟨#[]⟩) (.string ⟨#[]⟩) (.string ⟨#[]⟩) (.string ⟨#[]⟩) (.string ⟨#[]⟩) (.string ⟨#[]⟩) (.string ⟨#[]⟩)
          generalize ((((((((((((((w5.setCell ⟨w.heap.size, 0, none⟩ (.slice none 0 0)).setCell ⟨w.heap.size, 1, none⟩ (.slice none 0 0)).setCell ⟨w.heap.size, 2, none⟩ (.slice none 0 0)).setCell ⟨w.heap.size, 3, none⟩ (.slice none 0 0)).setCell ⟨w.heap.size, 4, none⟩ (.string ⟨#[]⟩)).setCell ⟨w.heap.size, 5, none⟩ (.string ⟨#[]⟩)).setCell ⟨w.heap.size, 6, none⟩ (.string ⟨#[]⟩)).setCell ⟨w.heap.size, 7, none⟩ (.string ⟨#[]⟩)).setCell ⟨w.heap.size, 8, none⟩ (.string ⟨#[]⟩)).setCell ⟨w.heap.size, 9, none⟩ (.string ⟨#[]⟩)).setCell ⟨w.heap.size, 10, none⟩ (.string ⟨#[]⟩)).setCell ⟨w.heap.size, 11, none⟩ (.string ⟨#[]⟩)).setCell ⟨w.heap.size, 12, none⟩ (.string ⟨#[]⟩)).setCell ⟨w.heap.size, 13, none⟩ (.string ⟨#[]⟩)) = w6 at N2 O2 ⊢
          clear c0 f0 c1 f1 c2 f2 c3 f3 c4 f4 c5 f5 c6 f6 c7 f7 c8 f8 c9 f9 c10 f10 c11 f11 c12 f12 c13 f13
          have c0 := (at_cell N2 0 : _ = some (Value.slice none 0 0))
          have f0 := at_frozen N2 0
          have c1 := (at_cell N2 1 : _ = some (Value.slice none 0 0))
          have f1 := at_frozen N2 1
          have c2 := (at_cell N2 2 : _ = some (Value.slice none 0 0))
          have f2 := at_frozen N2 2
          have c3 := (at_cell N2 3 : _ = some (Value.slice none 0 0))
          have f3 := at_frozen N2 3
          have c4 := (at_cell N2 4 : _ = some (Value.string ⟨#[]⟩))
          have f4 := at_frozen N2 4
          have c5 := (at_cell N2 5 : _ = some (Value.string ⟨#[]⟩))
          have f5 := at_frozen N2 5
          have c6 := (at_cell N2 6 : _ = some (Value.string ⟨#[]⟩))
          have f6 := at_frozen N2 6
          have c7 := (at_cell N2 7 : _ = some (Value.string ⟨#[]⟩))
          have f7 := at_frozen N2 7
          have c8 := (at_cell N2 8 : _ = some (Value.string ⟨#[]⟩))
          have f8 := at_frozen N2 8
          have c9 := (at_cell N2 9 : _ = some (Value.string ⟨#[]⟩))
          have f9 := at_frozen N2 9
          have c10 := (at_cell N2 10 : _ = some (Value.string ⟨#[]⟩))
          have f10 := at_frozen N2 10
          have c11 := (at_cell N2 11 : _ = some (Value.string ⟨#[]⟩))
          have f11 := at_frozen N2 11
          have c12 := (at_cell N2 12 : _ = some (Value.string ⟨#[]⟩))
          have f12 := at_frozen N2 12
          have c13 := (at_cell N2 13 : _ = some (Value.string ⟨#[]⟩))
          have f13 := at_frozen N2 13
          refine bodyPost_ret (v := .tuple #[confV (.slice none 0 0) (.slice none 0 0) (.slice none 0 0) (.slice none 0 0) [] [] [] [] [] [] [] [] [] [], .iface 97 (.pointer (some ⟨gf, 0, none⟩))]) ?_ rfl ?_
          · simp [results, Tryz.results7, go_sem, confV, *]
          · rw [HR3.out]
            exact LdPost.bad (bad_post HE.out N5.out (by decide) O2) ((B1.out.trans (B5.out.mono (by have := B1.out.size; omega))).trans (O2.below (by have := B1.out.size; have := B5.out.size; omega) fun k e => by have e : k = w.heap.size := e; omega))
        | @ok s' _ hl hb =>
          have C1 := Lib.hid (HGO.out s' w5 rfl hl ((HBK.out.mono hsz).trans hb))
          clear hl hb c0 c1 c2 c3 c4 HT HGO HBD
          go_wp2_with fail
          go_roundw
          case rel => exact ⟨k + 1, s', by omega, by go_num, C1.out⟩
          case measure => simp [intOf]; omega
      · have HR3 := Lib.hid (show rz = .ok sa.cf by
          have := HC.out.left
          rw [List.drop_eq_nil_of_le (by have := HN.out; omega)] at this
          exact this.symm)
        have NR := Lib.hid ((HC.out.below.block _ lR).trans N1.out)
        obtain ⟨v0, v1, v2, v3, f, m, hL, -⟩ := HC.out.lds
        have HCF := Lib.hid hL.rows
        have HOK := Lib.hid HC.out.good.cf
        obtain ⟨gs, hg1, -⟩ := hL.rows.grps
        obtain ⟨p0, k0, e0, -⟩ := own_rd hL.rows.cons
        obtain ⟨p1, k1, e1, -⟩ := own_rd hg1
        obtain ⟨p2, k2, e2, -⟩ := own_rd hL.rows.usrs
        obtain ⟨p3, k3, e3, -⟩ := own_rd hL.rows.accs
        clear hg1
        subst e0 e1 e2 e3
        obtain ⟨b0, b1, b2, b3, b4, b5, b6, b7, b8, b9, hbs⟩ := ten_of hL.ten
        dsimp only at hbs
        have HL := Lib.hid hL
        have HBS := Lib.hid hbs
        have lr := hL.lt
        have lR2 := at_lt NR.out
        have m0 := hL.c0
        have m1 := hL.c1
        have m2 := hL.c2
        have m3 := hL.c3
        have hbr : ∀ (i : Nat) (t : Bs), [b0, b1, b2, b3, b4, b5, b6, b7, b8, b9][i]? = some t → wr.cell? ⟨lb, 4 + i, none⟩ = some (.string ⟨t.toArray⟩) := fun i t hi => by
          have hlt : i < sa.cf.brks.length := by rw [hbs]; exact (List.getElem?_eq_some_iff.1 hi).1
          have := hL.brk hlt
          have e : sa.cf.brks[i] = t := by
            have h2 : sa.cf.brks[i]? = some t := by rw [hbs]; exact hi
            rw [List.getElem?_eq_getElem hlt] at h2
            exact Option.some.inj h2
          rw [← e]; exact this
        have m4 : wr.cell? ⟨lb, 4, none⟩ = some (.string ⟨b0.toArray⟩) := hbr 0 b0 rfl
        have m5 : wr.cell? ⟨lb, 5, none⟩ = some (.string ⟨b1.toArray⟩) := hbr 1 b1 rfl
        have m6 : wr.cell? ⟨lb, 6, none⟩ = some (.string ⟨b2.toArray⟩) := hbr 2 b2 rfl
        have m7 : wr.cell? ⟨lb, 7, none⟩ = some (.string ⟨b3.toArray⟩) := hbr 3 b3 rfl
        have m8 : wr.cell? ⟨lb, 8, none⟩ = some (.string ⟨b4.toArray⟩) := hbr 4 b4 rfl
        have m9 : wr.cell? ⟨lb, 9, none⟩ = some (.string ⟨b5.toArray⟩) := hbr 5 b5 rfl
        have m10 : wr.cell? ⟨lb, 10, none⟩ = some (.string ⟨b6.toArray⟩) := hbr 6 b6 rfl
        have m11 : wr.cell? ⟨lb, 11, none⟩ = some (.string ⟨b7.toArray⟩) := hbr 7 b7 rfl
        have m12 : wr.cell? ⟨lb, 12, none⟩ = some (.string ⟨b8.toArray⟩) := hbr 8 b8 rfl
        have m13 : wr.cell? ⟨lb, 13, none⟩ = some (.string ⟨b9.toArray⟩) := hbr 9 b9 rfl
        clear hbr hL hbs
        have c0 := (at_cell NR.out 0 : _ = some (Value.slice none 0 0))
        have f0 := at_frozen NR.out 0
        have c1 := (at_cell NR.out 1 : _ = some (Value.slice none 0 0))
        have f1 := at_frozen NR.out 1
        have c2 := (at_cell NR.out 2 : _ = some (Value.slice none 0 0))
        have f2 := at_frozen NR.out 2
        have c3 := (at_cell NR.out 3 : _ = some (Value.slice none 0 0))
        have f3 := at_frozen NR.out 3
        have c4 := (at_cell NR.out 4 : _ = some (Value.string ⟨#[]⟩))
        have f4 := at_frozen NR.out 4
        have c5 := (at_cell NR.out 5 : _ = some (Value.string ⟨#[]⟩))
        have f5 := at_frozen NR.out 5
        have c6 := (at_cell NR.out 6 : _ = some (Value.string ⟨#[]⟩))
        have f6 := at_frozen NR.out 6
        have c7 := (at_cell NR.out 7 : _ = some (Value.string ⟨#[]⟩))
        have f7 := at_frozen NR.out 7
        have c8 := (at_cell NR.out 8 : _ = some (Value.string ⟨#[]⟩))
        have f8 := at_frozen NR.out 8
        have c9 := (at_cell NR.out 9 : _ = some (Value.string ⟨#[]⟩))
        have f9 := at_frozen NR.out 9
        have c10 := (at_cell NR.out 10 : _ = some (Value.string ⟨#[]⟩))
        have f10 := at_frozen NR.out 10
        have c11 := (at_cell NR.out 11 : _ = some (Value.string ⟨#[]⟩))
        have f11 := at_frozen NR.out 11
        have c12 := (at_cell NR.out 12 : _ = some (Value.string ⟨#[]⟩))
        have f12 := at_frozen NR.out 12
        have c13 := (at_cell NR.out 13 : _ = some (Value.string ⟨#[]⟩))
        have f13 := at_frozen NR.out 13
        go_wp2_with fail
        have N2 := set14_row (y0 := .slice p0 sa.cf.cons.length k0) (y1 := .slice p1 sa.cf.grps.length k1) (y2 := .slice p2 sa.cf.usrs.length k2) (y3 := .slice p3 sa.cf.accs.length k3) (y4 := .string ⟨b0.toArray⟩) (y5 := .string ⟨b1.toArray⟩) (y6 := .string ⟨b2.toArray⟩) (y7 := .string ⟨b3.toArray⟩) (y8 := .string ⟨b4.toArray⟩) (y9 := .string ⟨b5.toArray⟩) (y10 := .string ⟨b6.toArray⟩) (y11 := .string ⟨b7.toArray⟩) (y12 := .string ⟨b8.toArray⟩) (y13 := .string ⟨b9.toArray⟩) NR.out
        have O2 := set14_out wr w.heap.size (.slice p0 sa.cf.cons.length k0) (.slice p1 sa.cf.grps.length k1) (.slice p2 sa.cf.usrs.length k2) (.slice p3 sa.cf.accs.length k3) (.string ⟨b0.toArray⟩) (.string ⟨b1.toArray⟩) (.string ⟨b2.toArray⟩) (.string ⟨b3.toArray⟩) (.string ⟨b4.toArray⟩) (.string ⟨b5.toArray⟩) (.string ⟨b6.toArray⟩) (.string ⟨b7.toArray⟩) (.string ⟨b8.toArray⟩) (.string ⟨b9.toArray⟩)
        generalize ((((((((((((((wr.setCell ⟨w.heap.size, 0, none⟩ (.slice p0 sa.cf.cons.length k0)).setCell ⟨w.heap.size, 1, none⟩ (.slice p1 sa.cf.grps.length k1)).setCell ⟨w.heap.size, 2, none⟩ (.slice p2 sa.cf.usrs.length k2)).setCell ⟨w.heap.size, 3, none⟩ (.slice p3 sa.cf.accs.length k3)).setCell ⟨w.heap.size, 4, none⟩ (.string ⟨b0.toArray⟩)).setCell ⟨w.heap.size, 5, none⟩ (.string ⟨b1.toArray⟩)).setCell ⟨w.heap.size, 6, none⟩ (.string ⟨b2.toArray⟩)).setCell ⟨w.heap.size, 7, none⟩ (.string ⟨b3.toArray⟩)).setCell ⟨w.heap.size, 8, none⟩ (.string ⟨b4.toArray⟩)).setCell ⟨w.heap.size, 9, none⟩ (.string ⟨b5.toArray⟩)).setCell ⟨w.heap.size, 10, none⟩ (.string ⟨b6.toArray⟩)).setCell ⟨w.heap.size, 11, none⟩ (.string ⟨b7.toArray⟩)).setCell ⟨w.heap.size, 12, none⟩ (.string ⟨b8.toArray⟩)).setCell ⟨w.heap.size, 13, none⟩ (.string ⟨b9.toArray⟩)) = w6 at N2 O2 ⊢
        clear c0 f0 c1 f1 c2 f2 c3 f3 c4 f4 c5 f5 c6 f6 c7 f7 c8 f8 c9 f9 c10 f10 c11 f11 c12 f12 c13 f13 m0 m1 m2 m3
        have c0 := (at_cell N2 0 : _ = some (Value.slice p0 sa.cf.cons.length k0))
        have f0 := at_frozen N2 0
        have c1 := (at_cell N2 1 : _ = some (Value.slice p1 sa.cf.grps.length k1))
        have f1 := at_frozen N2 1
        have c2 := (at_cell N2 2 : _ = some (Value.slice p2 sa.cf.usrs.length k2))
        have f2 := at_frozen N2 2
        have c3 := (at_cell N2 3 : _ = some (Value.slice p3 sa.cf.accs.length k3))
        have f3 := at_frozen N2 3
        have c4 := (at_cell N2 4 : _ = some (Value.string ⟨b0.toArray⟩))
        have f4 := at_frozen N2 4
        have c5 := (at_cell N2 5 : _ = some (Value.string ⟨b1.toArray⟩))
        have f5 := at_frozen N2 5
        have c6 := (at_cell N2 6 : _ = some (Value.string ⟨b2.toArray⟩))
        have f6 := at_frozen N2 6
        have c7 := (at_cell N2 7 : _ = some (Value.string ⟨b3.toArray⟩))
        have f7 := at_frozen N2 7
        have c8 := (at_cell N2 8 : _ = some (Value.string ⟨b4.toArray⟩))
        have f8 := at_frozen N2 8
        have c9 := (at_cell N2 9 : _ = some (Value.string ⟨b5.toArray⟩))
        have f9 := at_frozen N2 9
        have c10 := (at_cell N2 10 : _ = some (Value.string ⟨b6.toArray⟩))
        have f10 := at_frozen N2 10
        have c11 := (at_cell N2 11 : _ = some (Value.string ⟨b7.toArray⟩))
        have f11 := at_frozen N2 11
        have c12 := (at_cell N2 12 : _ = some (Value.string ⟨b8.toArray⟩))
        have f12 := at_frozen N2 12
        have c13 := (at_cell N2 13 : _ = some (Value.string ⟨b9.toArray⟩))
        have f13 := at_frozen N2 13
        refine bodyPost_ret (v := .tuple #[confV (.slice p0 sa.cf.cons.length k0) (.slice p1 sa.cf.grps.length k1) (.slice p2 sa.cf.usrs.length k2) (.slice p3 sa.cf.accs.length k3) b0 b1 b2 b3 b4 b5 b6 b7 b8 b9, .nilIface]) ?_ rfl ?_
        · simp [results, Tryz.results7, go_sem, confV, *]
        · rw [HR3.out]
          exact LdPost.ok (cf_out HCF.out NR.out (by have := B1.out.size; omega) HOK.out O2 (by have := HC.out.below.size; omega)) HBS.out ((B1.out.trans (HC.out.below.mono (by have := B1.out.size; omega))).trans (O2.below (by have := B1.out.size; have := HC.out.below.size; omega) fun k e => by have e : k = w.heap.size := e; omega))
end Go.Proofs.YtajfdachpdkbcaaGreatDoor.Conf
end

section
namespace Go.Proofs.YtajfdachpdkbcaaGreatDoor.Conf
open Go.RowKit Go.Proofs.YtajfdachpdkbcaaGreatDoor.Own Go.Proofs.YtajfdachpdkbcaaGreatDoor.Rw Go.Proofs.YtajfdachpdkbcaaGreatDoor.Tree

set_option maxRecDepth 100000 in
set_option maxHeartbeats 8000000 in
theorem is_conf (c : Cf) (v0 v1 v2 v3 : Value) (b0 b1 b2 b3 b4 b5 b6 b7 b8 b9 : Bs) (w : World) (hr : CfR w v0 v1 v2 v3 c) (ht : c.brks = [b0, b1, b2, b3, b4, b5, b6, b7, b8, b9]) (hz : Szd c) :
    Calls Tryz.prog 10 #[confV v0 v1 v2 v3 b0 b1 b2 b3 b4 b5 b6 b7 b8 b9] w fun e w' => ∃ r, e = .returned (.bool r) ∧ (r = true ↔ loadT ((printT c).getD []) = .ok c) ∧ Below w.heap.size w w' := by
  have HR := Lib.hid hr
  obtain ⟨p0, k0, rfl, -⟩ := hr.cons
  obtain ⟨p1, k1, _, rfl, -, -⟩ := hr.grps
  obtain ⟨p2, k2, rfl, -⟩ := hr.usrs
  obtain ⟨p3, k3, rfl, -⟩ := hr.accs
  have HZ := Lib.hid hz
  have HT := Lib.hid ht
  have BB := Lib.hid ((Below.refl w.heap.size w).alloc (Nat.le_refl _) (.cells #[.slice p0 c.cons.length k0, .slice p1 c.grps.length k1, .slice p2 c.usrs.length k2, .slice p3 c.accs.length k3, .string ⟨b0.toArray⟩, .string ⟨b1.toArray⟩, .string ⟨b2.toArray⟩, .string ⟨b3.toArray⟩, .string ⟨b4.toArray⟩, .string ⟨b5.toArray⟩, .string ⟨b6.toArray⟩, .string ⟨b7.toArray⟩, .string ⟨b8.toArray⟩, .string ⟨b9.toArray⟩] 29))
  have NB := Lib.hid (at_new w (.cells #[.slice p0 c.cons.length k0, .slice p1 c.grps.length k1, .slice p2 c.usrs.length k2, .slice p3 c.accs.length k3, .string ⟨b0.toArray⟩, .string ⟨b1.toArray⟩, .string ⟨b2.toArray⟩, .string ⟨b3.toArray⟩, .string ⟨b4.toArray⟩, .string ⟨b5.toArray⟩, .string ⟨b6.toArray⟩, .string ⟨b7.toArray⟩, .string ⟨b8.toArray⟩, .string ⟨b9.toArray⟩] 29))
  have HP := Lib.hid (print_conf c _ _ _ _ b0 b1 b2 b3 b4 b5 b6 b7 b8 b9 _ (hr.below BB.out) ht hz)
  clear hr hz ht
  unfold confV at HP ⊢
  go_enter Tryz.func10, Tryz.ntmps10
  go_wp2_with fail
  refine HP.out.mono ?_
  rintro e w1 ⟨rfl, hb1⟩
  have N1 := Lib.hid ((hb1.block _ (at_lt NB.out)).trans NB.out)
  have B1 := Lib.hid (BB.out.trans (hb1.mono BB.out.size))
  have X1 := Lib.hid hb1
  obtain ⟨rz, hrz⟩ : ∃ rz, loadT ((printT c).getD []) = rz := ⟨_, rfl⟩
  have HG := Lib.hid hrz
  have HL := Lib.hid (load_calls ((printT c).getD []) w1)
  rw [hrz] at HL
  clear hb1 HP hrz
  go_wp2_with fail
  refine HL.out.mono ?_
  intro e w2 hp
  clear HL
  cases hp with
  | @bad v n l w2 he hb2 =>
    obtain ⟨T, x, rfl⟩ := he.some
    have B2 := Lib.hid (B1.out.trans (hb2.mono B1.out.size))
    clear he hb2
    unfold confV
    go_wp2_with fail
    go_ret
    exact ⟨false, rfl, ⟨fun h => (by cases h), fun h => (by rw [HG.out] at h; cases h)⟩, B2.out.alloc (by have := B2.out.size; omega) _⟩
  | @ok cf w2 u0 u1 u2 u3 d0 d1 d2 d3 d4 d5 d6 d7 d8 d9 hr2 ht2 hb2 =>
    have HR2 := Lib.hid hr2
    have HT2 := Lib.hid ht2
    obtain ⟨q0, m0, rfl, -⟩ := hr2.cons
    obtain ⟨q1, m1, _, rfl, -, -⟩ := hr2.grps
    obtain ⟨q2, m2, rfl, -⟩ := hr2.usrs
    obtain ⟨q3, m3, rfl, -⟩ := hr2.accs
    have B2 := Lib.hid (B1.out.trans (hb2.mono B1.out.size))
    have N2 := (hb2.block _ (at_lt N1.out)).trans N1.out
    have N3 := ((((Below.refl w2.heap.size w2).alloc (Nat.le_refl _) (.cells #[.slice q0 cf.cons.length m0, .slice q1 cf.grps.length m1, .slice q2 cf.usrs.length m2, .slice q3 cf.accs.length m3, .string ⟨d0.toArray⟩, .string ⟨d1.toArray⟩, .string ⟨d2.toArray⟩, .string ⟨d3.toArray⟩, .string ⟨d4.toArray⟩, .string ⟨d5.toArray⟩, .string ⟨d6.toArray⟩, .string ⟨d7.toArray⟩, .string ⟨d8.toArray⟩, .string ⟨d9.toArray⟩] 29))).block _ (at_lt N2)).trans N2
    have BX := Lib.hid ((Below.refl w2.heap.size w2).alloc (Nat.le_refl _) (.cells #[.slice q0 cf.cons.length m0, .slice q1 cf.grps.length m1, .slice q2 cf.usrs.length m2, .slice q3 cf.accs.length m3, .string ⟨d0.toArray⟩, .string ⟨d1.toArray⟩, .string ⟨d2.toArray⟩, .string ⟨d3.toArray⟩, .string ⟨d4.toArray⟩, .string ⟨d5.toArray⟩, .string ⟨d6.toArray⟩, .string ⟨d7.toArray⟩, .string ⟨d8.toArray⟩, .string ⟨d9.toArray⟩] 29))
    have NX := at_new w2 (.cells #[.slice q0 cf.cons.length m0, .slice q1 cf.grps.length m1, .slice q2 cf.usrs.length m2, .slice q3 cf.accs.length m3, .string ⟨d0.toArray⟩, .string ⟨d1.toArray⟩, .string ⟨d2.toArray⟩, .string ⟨d3.toArray⟩, .string ⟨d4.toArray⟩, .string ⟨d5.toArray⟩, .string ⟨d6.toArray⟩, .string ⟨d7.toArray⟩, .string ⟨d8.toArray⟩, .string ⟨d9.toArray⟩] 29)
    have HS := Lib.hid (fun W (hW : Below w2.heap.size w2 W) => same_conf cf c _ _ _ _ _ _ _ _ d0 d1 d2 d3 d4 d5 d6 d7 d8 d9 b0 b1 b2 b3 b4 b5 b6 b7 b8 b9 W (hr2.below hW) (HR.out.below (B2.out.trans (hW.mono B2.out.size))) ht2 HT.out)
    clear hr2 ht2 hb2
    unfold confV at HS ⊢
    have c0 := (at_cell N3 0 : _ = some (Value.slice p0 c.cons.length k0))
    have c1 := (at_cell N3 1 : _ = some (Value.slice p1 c.grps.length k1))
    have c2 := (at_cell N3 2 : _ = some (Value.slice p2 c.usrs.length k2))
    have c3 := (at_cell N3 3 : _ = some (Value.slice p3 c.accs.length k3))
    have c4 := (at_cell N3 4 : _ = some (Value.string ⟨b0.toArray⟩))
    have c5 := (at_cell N3 5 : _ = some (Value.string ⟨b1.toArray⟩))
    have c6 := (at_cell N3 6 : _ = some (Value.string ⟨b2.toArray⟩))
    have c7 := (at_cell N3 7 : _ = some (Value.string ⟨b3.toArray⟩))
    have c8 := (at_cell N3 8 : _ = some (Value.string ⟨b4.toArray⟩))
    have c9 := (at_cell N3 9 : _ = some (Value.string ⟨b5.toArray⟩))
    have c10 := (at_cell N3 10 : _ = some (Value.string ⟨b6.toArray⟩))
    have c11 := (at_cell N3 11 : _ = some (Value.string ⟨b7.toArray⟩))
    have c12 := (at_cell N3 12 : _ = some (Value.string ⟨b8.toArray⟩))
    have c13 := (at_cell N3 13 : _ = some (Value.string ⟨b9.toArray⟩))
    clear N3
    go_wp2_with fail
    refine (HS.out _ BX.out).mono ?_
    rintro e w3 ⟨r, rfl, hr, hb⟩
    have HR3 := Lib.hid hr
    have B3 := Lib.hid (B2.out.trans ((BX.out.trans (hb.mono BX.out.size)).mono B2.out.size))
    clear hr hb HS
    go_wp2_with fail
    go_ret
    exact ⟨r, rfl, HR3.out.trans ⟨fun h => by rw [HG.out, h], fun h => by rw [HG.out] at h; cases h; rfl⟩, B3.out⟩
end Go.Proofs.YtajfdachpdkbcaaGreatDoor.Conf
end

section
namespace Go.Proofs.YtajfdachpdkbcaaGreatDoor.Conf
open Go.RowKit Go.Proofs.YtajfdachpdkbcaaGreatDoor.Lex Go.Proofs.YtajfdachpdkbcaaGreatDoor.Tree Go.Proofs.YtajfdachpdkbcaaGreatDoor.Word
open Go.Proofs.YtajfdachpdkbcaaGreatDoor.Brk (rC)
open Go.Proofs.YtajfdachpdkbcaaGreatDoor.Digit (dec decN_ne decN_digit dec_len hexd dec_lt rdV rdC)

def ex1 : Bs := [100, 101, 102, 97, 117, 108, 116, 32, 123, 32, 108, 105, 110, 101, 115, 32, 53, 59, 32, 125, 10, 99, 111, 110, 115, 111, 108, 101, 32, 97, 32, 123, 32, 114, 101, 116, 114, 121, 32, 50, 32, 57, 32, 48, 59, 32, 105, 110, 105, 116, 32, 34, 120, 92, 92, 100, 34, 59, 32, 125, 10, 99, 111, 110, 115, 111, 108, 101, 32, 98, 32, 123, 32, 108, 105, 107, 101, 32, 97, 59, 32, 107, 105, 110, 100, 32, 112, 116, 121, 59, 32, 125, 10, 103, 114, 111, 117, 112, 32, 97, 108, 108, 32, 42, 59, 10, 117, 115, 101, 114, 32, 97, 110, 110, 32, 115, 101, 99, 114, 101, 116, 59, 10, 97, 99, 99, 101, 115, 115, 32, 42, 32, 97, 110, 110, 32, 99, 104, 105, 101, 102, 59, 10, 98, 114, 101, 97, 107, 32, 49, 32, 34, 92, 92, 122, 34, 59]
def ex2 : Bs := [99, 111, 110, 115, 111, 108, 101, 32, 97, 32, 123, 10, 32, 108, 105, 110, 101, 115, 32, 48, 59, 10, 125]
def ex3 : Bs := [99, 111, 110, 115, 111, 108, 101, 32, 97, 32, 123, 125, 10, 99, 111, 110, 115, 111, 108, 101, 32, 97, 32, 123, 125]
def ex4 : Bs := [99, 111, 110, 115, 111, 108, 101, 32, 98, 32, 123, 32, 108, 105, 107, 101, 32, 97, 59, 32, 125]
def sXd : Bs := [120, 92, 100]
def sBz : Bs := [92, 122]
def sAnn : Bs := [97, 110, 110]
def sAll : Bs := [97, 108, 108]
def sSecret : Bs := [115, 101, 99, 114, 101, 116]
def n1 : Nd := .mk sDefault [] true [.mk sLines [[53]] false [] 1] 1
def n2 : Nd := .mk sConsole [[97]] true [.mk sRetry [[50], [57], [48]] false [] 2, .mk sInit [sXd] false [] 2] 2
def n3 : Nd := .mk sConsole [[98]] true [.mk sLike [[97]] false [] 3, .mk sKind [sPty] false [] 3] 3
def n4 : Nd := .mk sGroup [sAll, [42]] false [] 4
def n5 : Nd := .mk sUser [sAnn, sSecret] false [] 5
def n6 : Nd := .mk sAccess [[42], sAnn, sChief] false [] 6
def n7 : Nd := .mk sBreak [[49], sBz] false [] 7
theorem read1 : readT ex1 = .ok [n1, n2, n3, n4, n5, n6, n7] := by kernel_rfl
theorem read2 : readT ex2 = .ok [.mk sConsole [[97]] true [.mk sLines [[48]] false [] 2] 1] := by kernel_rfl
theorem read3 : readT ex3 = .ok [.mk sConsole [[97]] true [] 1, .mk sConsole [[97]] true [] 2] := by kernel_rfl
theorem read4 : readT ex4 = .ok [.mk sConsole [[98]] true [.mk sLike [[97]] false [] 1] 1] := by kernel_rfl

theorem rC_xd : rC sXd = 0 := (Brk.r_some (by decide) (by
  have s1 : Brk.rdF [] sXd = Brk.rdF [⟨1, [120], 0⟩] [92, 100] := Brk.rdF_step (t := [120]) (Brk.one_plain _ (by decide) (by decide) (by decide)) (by simp)
  have s2 : Brk.rdF [⟨1, [120], 0⟩] [92, 100] = Brk.rdF [⟨1, [120], 0⟩, ⟨2, [], 1⟩] [] := Brk.rdF_step (t := [92, 100]) (Brk.one_esc 100 _) (by simp)
  rw [s1, s2, Brk.rdF_nil])).1
theorem rC_bz : rC sBz = 0 := (Brk.r_some (by decide) (by
  have s2 : Brk.rdF [] sBz = Brk.rdF [⟨3, [], 0⟩] [] := Brk.rdF_step (t := [92, 122]) (Brk.one_esc 122 _) (by simp)
  rw [s2, Brk.rdF_nil])).1
theorem rd_1 {n : Int} {c : UInt8} (h0 : 0 ≤ n) (h : n < 10) (hc : hexd n.toNat = c) : rdV [c] = n ∧ rdC [c] = 0 := by
  have := rd_dec h0 (by omega)
  rwa [dec_lt h0 h, hc] at this
def cA : Cn := ⟨[97], 1, 5, 4096, 3, 4096, 2, 9, 0, sXd⟩
def cB : Cn := ⟨[98], 2, 5, 4096, 3, 4096, 2, 9, 0, sXd⟩
def cfX : Cf := ⟨[cA, cB], [(sAll, [[42]])], [(sAnn, sSecret)], [([42], sAnn, 3)], [[], sBz, [], [], [], [], [], [], [], []]⟩
def us5 : Cn := { usual with lines := 5 }
theorem set_num (cs : List Cn) (x : Cn) {n : Int} {c : UInt8} (h0 : 0 ≤ n) (h : n < 10) (hc : hexd n.toNat = c) : setM cs x sLines [[c]] false = if 1 ≤ n then (0, { x with lines := n }) else (2, x) := by
  obtain ⟨e1, e2⟩ := rd_1 h0 h hc
  unfold setM
  rw [if_neg (by decide), if_neg (by decide)]
  dsimp only
  unfold oneM
  rw [if_neg (by decide), if_pos rfl]
  unfold numM
  rw [if_neg (by rw [e2]; decide), e1]
  by_cases h1 : 1 ≤ n
  · rw [if_pos h1, if_pos ⟨h1, by omega⟩]
  · rw [if_neg h1, if_neg (by omega)]
theorem sets_cons {cs : List Cn} {x y : Cn} {n : Nd} {r : List Nd} (h : setM cs x n.key n.args n.block = (0, y)) : setsM cs x (n :: r) = setsM cs y r := by rw [setsM, h]; rfl
theorem sets_bad {cs : List Cn} {x y : Cn} {n : Nd} {r : List Nd} {c : Int} (h : setM cs x n.key n.args n.block = (c, y)) (hc : c ≠ 0) : setsM cs x (n :: r) = .bad c n.line := by rw [setsM, h]; exact if_neg hc
theorem st1 : stepM ⟨empty, usual⟩ n1 = .ok ⟨empty, us5⟩ := by
  unfold stepM
  rw [if_neg (by decide), if_pos (show n1.key = sDefault from rfl)]
  show (match setsM [] usual [.mk sLines [[53]] false [] 1] with | .bad c l => Rz.bad c l | .ok x => .ok (⟨empty, x⟩ : Sa)) = _
  rw [sets_cons (set_num [] usual (n := 5) (by decide) (by decide) rfl)]
  rfl
theorem ws_retry (cs : List Cn) (x : Cn) : setM cs x sRetry [[50], [57], [48]] false = (0, { x with base := 2, cap := 9, jit := 0 }) := by
  obtain ⟨a1, a2⟩ := rd_1 (n := 2) (c := 50) (by decide) (by decide) rfl
  obtain ⟨b1, b2⟩ := rd_1 (n := 9) (c := 57) (by decide) (by decide) rfl
  obtain ⟨c1, c2⟩ := rd_1 (n := 0) (c := 48) (by decide) (by decide) rfl
  unfold setM
  rw [if_neg (by decide), if_pos rfl]
  unfold retryM
  dsimp only
  rw [a1, a2, b1, b2, c1, c2]
  rfl
theorem ws_init (cs : List Cn) (x : Cn) : setM cs x sInit [sXd] false = (0, { x with init := sXd }) := by
  unfold setM
  rw [if_neg (by decide), if_neg (by decide)]
  dsimp only
  unfold oneM
  rw [if_neg (by decide), if_neg (by decide), if_neg (by decide), if_neg (by decide), if_neg (by decide), if_pos rfl]
  unfold initM
  rw [if_pos rC_xd]
theorem ws_like (cs : List Cn) (x : Cn) (a : Bs) : setM cs x sLike [a] false = likeM cs x a := by
  unfold setM
  rw [if_neg (by decide), if_neg (by decide)]
  dsimp only
  unfold oneM
  rw [if_neg (by decide), if_neg (by decide), if_neg (by decide), if_neg (by decide), if_neg (by decide), if_neg (by decide), if_pos rfl]
theorem ws_kind (cs : List Cn) (x : Cn) (a : Bs) : setM cs x sKind [a] false = kindM x a := by
  unfold setM
  rw [if_neg (by decide), if_neg (by decide)]
  dsimp only
  unfold oneM
  rw [if_pos rfl]
def cf2 : Cf := { empty with cons := [cA] }
def cf3 : Cf := { empty with cons := [cA, cB] }
theorem st2 : stepM ⟨empty, us5⟩ n2 = .ok ⟨cf2, us5⟩ :=
  con_ok (s := ⟨empty, us5⟩) (n := n2) (nm := [97]) (x := cA) rfl rfl (by decide) (by
    show setsM [] _ [.mk sRetry [[50], [57], [48]] false [] 2, .mk sInit [sXd] false [] 2] = _
    rw [sets_cons (ws_retry _ _), sets_cons (ws_init _ _)]; rfl) rfl
theorem st3 : stepM ⟨cf2, us5⟩ n3 = .ok ⟨cf3, us5⟩ :=
  con_ok (s := ⟨cf2, us5⟩) (n := n3) (nm := [98]) (x := cB) rfl rfl (by decide) (by
    show setsM [cA] _ [.mk sLike [[97]] false [] 3, .mk sKind [sPty] false [] 3] = _
    rw [sets_cons (y := { cA with name := [98] }) ((ws_like _ _ _).trans rfl), sets_cons (y := cB) ((ws_kind _ _ _).trans rfl)]; rfl) rfl
def cf4 : Cf := { cf3 with grps := [(sAll, [[42]])] }
def cf5 : Cf := { cf4 with usrs := [(sAnn, sSecret)] }
def cf6 : Cf := { cf5 with accs := [([42], sAnn, 3)] }
theorem st4 : stepM ⟨cf3, us5⟩ n4 = .ok ⟨cf4, us5⟩ := plain_step (s := ⟨cf3, us5⟩) (n := n4) (by decide) (by decide) (by kernel_rfl)
theorem st5 : stepM ⟨cf4, us5⟩ n5 = .ok ⟨cf5, us5⟩ := plain_step (s := ⟨cf4, us5⟩) (n := n5) (by decide) (by decide) (by kernel_rfl)
theorem st6 : stepM ⟨cf5, us5⟩ n6 = .ok ⟨cf6, us5⟩ := plain_step (s := ⟨cf5, us5⟩) (n := n6) (by decide) (by decide) (by kernel_rfl)
theorem st7 : stepM ⟨cf6, us5⟩ n7 = .ok ⟨cfX, us5⟩ := plain_step (s := ⟨cf6, us5⟩) (n := n7) (by decide) (by decide) (by
  show plainM cf6 sBreak [[49], sBz] false = _
  obtain ⟨a1, a2⟩ := rd_1 (n := 1) (c := 49) (by decide) (by decide) rfl
  unfold plainM
  rw [if_neg (by decide), if_neg (by decide), if_neg (by decide), if_neg (by decide), if_pos rfl]
  unfold brkM
  dsimp only
  rw [a1, a2, rC_bz]
  rfl)
theorem load1 : loadT ex1 = .ok cfX := by
  unfold loadT
  rw [read1]
  unfold loadL
  dsimp only
  rw [fold_ok st1, fold_ok st2, fold_ok st3, fold_ok st4, fold_ok st5, fold_ok st6, fold_ok st7, fold_nil]
theorem load2 : loadT ex2 = .bad 2 2 := by
  unfold loadT
  rw [read2]
  unfold loadL
  dsimp only
  have : stepM ⟨empty, usual⟩ (.mk sConsole [[97]] true [.mk sLines [[48]] false [] 2] 1) = .bad 2 2 := by
    unfold stepM
    rw [if_pos (show Nd.key _ = sConsole from rfl)]
    show (match setsM [] { usual with name := [97] } [.mk sLines [[48]] false [] 2] with | .bad c l => Rz.bad c l | .ok x => .ok (⟨{ empty with cons := [] ++ [x] }, usual⟩ : Sa)) = _
    rw [sets_bad (set_num [] _ (n := 0) (by decide) (by decide) rfl) (by decide)]
    rfl
  rw [fold_bad this]
theorem load3 : loadT ex3 = .bad 8 2 := by
  unfold loadT
  rw [read3]
  rfl
theorem load4 : loadT ex4 = .bad 7 1 := by
  unfold loadT
  rw [read4]
  unfold loadL
  dsimp only
  have : stepM ⟨empty, usual⟩ (.mk sConsole [[98]] true [.mk sLike [[97]] false [] 1] 1) = .bad 7 1 := by
    unfold stepM
    rw [if_pos (show Nd.key _ = sConsole from rfl)]
    show (match setsM [] { usual with name := [98] } [.mk sLike [[97]] false [] 1] with | .bad c l => Rz.bad c l | .ok x => .ok (⟨{ empty with cons := [] ++ [x] }, usual⟩ : Sa)) = _
    rw [sets_bad ((ws_like _ _ _).trans rfl) (by decide)]
    rfl
  rw [fold_bad this]
theorem okX : OkC cfX := (loadT_good load1).1
theorem wt_con2 {x : Cn} (h : Ints x) : (conN x).wt ≤ 2 * x.name.length + 2 * x.init.length + 1500 := by
  have a0 := kindW_len x.kind
  have a1 := dec_len h.lines.1 h.lines.2
  have a2 := dec_len h.bytes.1 h.bytes.2
  have a3 := dec_len h.gens.1 h.gens.2
  have a4 := dec_len h.size.1 h.size.2
  have a5 := dec_len h.base.1 h.base.2
  have a6 := dec_len h.cap.1 h.cap.2
  have a7 := dec_len h.jit.1 h.jit.2
  rw [wt_open]
  show sConsole.length + awt [x.name] + 64 + wtL (setNs x) ≤ _
  unfold setNs
  simp only [wtL_cons, wtL_nil, wt_flat, awt_cons, awt_nil]
  rw [show sConsole.length = 7 from rfl, show sKind.length = 4 from rfl, show sLines.length = 5 from rfl, show sBytes.length = 5 from rfl, show sGens.length = 4 from rfl, show sSize.length = 4 from rfl, show sRetry.length = 5 from rfl, show sInit.length = 4 from rfl]
  omega
theorem wt_x : wtL (nodes cfX) ≤ 20000 := by
  have h1 := wt_con2 (x := cA) ((ok_szd okX).cons.2 cA (List.mem_cons_self ..)).2.2
  have h2 := wt_con2 (x := cB) ((ok_szd okX).cons.2 cB (List.mem_cons_of_mem _ (List.mem_cons_self ..))).2.2
  have h3 : (dec 1).length ≤ 20 := dec_len (by omega) (by omega)
  show wtL [flat1 sBreak [dec 1, sBz], conN cA, conN cB, grpN (sAll, [[42]]), usrN (sAnn, sSecret), accN ([42], sAnn, 3)] ≤ _
  have e1 : cA.name.length = 1 := rfl
  have e2 : cA.init.length = 3 := rfl
  have e3 : cB.name.length = 1 := rfl
  have e4 : cB.init.length = 3 := rfl
  have g1 : (grpN (sAll, [[42]])).wt ≤ 200 := by unfold grpN; rw [wt_flat]; decide
  have g2 : (usrN (sAnn, sSecret)).wt ≤ 200 := by unfold usrN; rw [wt_flat]; decide
  have g3 : (accN ([42], sAnn, 3)).wt ≤ 200 := by unfold accN; rw [wt_flat]; decide
  have g4 : (flat1 sBreak [dec 1, sBz]).wt ≤ 200 := by
    rw [wt_flat, awt_cons, awt_cons, awt_nil, show sBreak.length = 5 from rfl, show sBz.length = 2 from rfl]; omega
  simp only [wtL_cons, wtL_nil]
  omega
theorem back_x : loadT ((printT cfX).getD []) = .ok cfX := by
  obtain ⟨t, ht⟩ := print_ok okX
  have hl := txt_len _ (nodes cfX) 0 t rfl (by omega) ht
  have := wt_x
  rw [ht]
  show loadT t = _
  refine print_back okX ht (by omega) ?_
  rw [tkc_eq]
  decide
end Go.Proofs.YtajfdachpdkbcaaGreatDoor.Conf
end

section
namespace Go.Proofs.YtajfdachpdkbcaaGreatDoor.Conf
open Go.RowKit Go.Proofs.YtajfdachpdkbcaaGreatDoor.Own Go.Proofs.YtajfdachpdkbcaaGreatDoor.Rw Go.Proofs.YtajfdachpdkbcaaGreatDoor.Tree

section
variable {w w' : World} {v : Value} {c n : Int}
theorem ErL.of (h : ErL w v c n) (hb : Below w.heap.size w w') (hT : Flt.Tab w') : Calls Tryz.prog 16 #[v] w' fun e w2 => e = .returned (.int .i64 c) ∧ Below w'.heap.size w' w2 := by
  obtain ⟨lay, h1, h2, h3⟩ := h.err
  exact Flt.of_calls v lay c w.heap.size w' (h1.below hb (Nat.le_refl _)) hb.size hT
theorem ErL.line (h : ErL w v c n) (hn : 0 < n) (hb : Below w.heap.size w w') (hT : Flt.Tab w') : Calls Tryz.prog 17 #[v] w' fun e w2 => e = .returned (.int .i64 n) ∧ Below w'.heap.size w' w2 := by
  obtain ⟨lay, h1, h2, h3⟩ := h.err
  have := Flt.line_calls v lay c w.heap.size w' (h1.below hb (Nat.le_refl _)) hb.size hT (by omega)
  rwa [h2, if_pos hn] at this
end
set_option maxRecDepth 100000 in
set_option maxHeartbeats 8000000 in
theorem works_calls (w : World) (hT : Flt.Tab w) :
    Calls Tryz.prog 6 #[] w fun e w' => e = .returned (.bool true) ∧ Below w.heap.size w w' := by
  have HTab := Lib.hid hT
  clear hT
  go_enter Tryz.func6, Tryz.ntmps6
  go_wp2_with fail
  have HL1 := load_calls ex1 w
  rw [load1] at HL1
  refine HL1.mono ?_
  clear HL1
  intro e w1 hp
  cases hp with
  | @ok cf w1 v0 v1 v2 v3 b0 b1 b2 b3 b4 b5 b6 b7 b8 b9 hr1 ht1 hb1 =>
  have ht1 : [[], sBz, [], [], [], [], [], [], [], []] = [b0, b1, b2, b3, b4, b5, b6, b7, b8, b9] := ht1
  cases ht1
  have HR := Lib.hid hr1
  obtain ⟨p0, k0, e0, -⟩ := hr1.cons
  obtain ⟨p1, k1, _, e1, -, -⟩ := hr1.grps
  obtain ⟨p2, k2, e2, -⟩ := hr1.usrs
  obtain ⟨p3, k3, e3, -⟩ := hr1.accs
  have e0 : v0 = .slice p0 2 k0 := e0
  have e1 : v1 = .slice p1 1 k1 := e1
  have e2 : v2 = .slice p2 1 k2 := e2
  have e3 : v3 = .slice p3 1 k3 := e3
  subst e0 e1 e2 e3
  have hb1A := Lib.hid hb1
  have N1 := Lib.hid (at_new w1 (.cells #[.slice p0 2 k0, .slice p1 1 k1, .slice p2 1 k2, .slice p3 1 k3, .string ⟨#[]⟩, .string ⟨#[92, 122]⟩, .string ⟨#[]⟩, .string ⟨#[]⟩, .string ⟨#[]⟩, .string ⟨#[]⟩, .string ⟨#[]⟩, .string ⟨#[]⟩, .string ⟨#[]⟩, .string ⟨#[]⟩] 29))
  have A1 := Lib.hid ((Below.refl w1.heap.size w1).alloc (Nat.le_refl _) (.cells #[.slice p0 2 k0, .slice p1 1 k1, .slice p2 1 k2, .slice p3 1 k3, .string ⟨#[]⟩, .string ⟨#[92, 122]⟩, .string ⟨#[]⟩, .string ⟨#[]⟩, .string ⟨#[]⟩, .string ⟨#[]⟩, .string ⟨#[]⟩, .string ⟨#[]⟩, .string ⟨#[]⟩, .string ⟨#[]⟩] 29))
  clear hr1 hb1
  unfold confV sBz
  go_wp2_with fail
  have X1 := Lib.hid (hb1A.out.trans (A1.out.mono hb1A.out.size))
  have Z1 := Lib.hid A1.out
  have HL2 := load_calls ex2 (w1.alloc (.cells #[.slice p0 2 k0, .slice p1 1 k1, .slice p2 1 k2, .slice p3 1 k3, .string ⟨#[]⟩, .string ⟨#[92, 122]⟩, .string ⟨#[]⟩, .string ⟨#[]⟩, .string ⟨#[]⟩, .string ⟨#[]⟩, .string ⟨#[]⟩, .string ⟨#[]⟩, .string ⟨#[]⟩, .string ⟨#[]⟩] 29))
  rw [load2] at HL2
  refine HL2.mono ?_
  clear HL2
  intro e w2 hp
  cases hp with
  | @bad u2 _ _ _ he2 hb2 =>
  obtain ⟨T2, x2, rfl⟩ := he2.some
  have E2 := Lib.hid he2
  have N2 := Lib.hid ((hb2.block _ (at_lt N1.out)).trans N1.out)
  have N2A := Lib.hid (((Below.refl w2.heap.size w2).alloc (Nat.le_refl _) (.cells #[.slice none 0 0, .slice none 0 0, .slice none 0 0, .slice none 0 0, .string ⟨#[]⟩, .string ⟨#[]⟩, .string ⟨#[]⟩, .string ⟨#[]⟩, .string ⟨#[]⟩, .string ⟨#[]⟩, .string ⟨#[]⟩, .string ⟨#[]⟩, .string ⟨#[]⟩, .string ⟨#[]⟩] 29)).block _ (at_lt N2.out) |>.trans N2.out)
  have X2 := Lib.hid (X1.out.trans ((hb2.trans (((Below.refl w2.heap.size w2).alloc (Nat.le_refl _) (.cells #[.slice none 0 0, .slice none 0 0, .slice none 0 0, .slice none 0 0, .string ⟨#[]⟩, .string ⟨#[]⟩, .string ⟨#[]⟩, .string ⟨#[]⟩, .string ⟨#[]⟩, .string ⟨#[]⟩, .string ⟨#[]⟩, .string ⟨#[]⟩, .string ⟨#[]⟩, .string ⟨#[]⟩] 29)).mono hb2.size)).mono X1.out.size))
  have Y2 := Lib.hid ((Below.refl w2.heap.size w2).alloc (Nat.le_refl _) (.cells #[.slice none 0 0, .slice none 0 0, .slice none 0 0, .slice none 0 0, .string ⟨#[]⟩, .string ⟨#[]⟩, .string ⟨#[]⟩, .string ⟨#[]⟩, .string ⟨#[]⟩, .string ⟨#[]⟩, .string ⟨#[]⟩, .string ⟨#[]⟩, .string ⟨#[]⟩, .string ⟨#[]⟩] 29))
  have U2 := Lib.hid hb2
  have Z2 := Lib.hid (Z1.out.trans ((U2.out.trans (Y2.out.mono U2.out.size)).mono Z1.out.size))
  clear he2 hb2
  unfold confV
  go_wp2_with fail
  have HL3 := load_calls ex3 (w2.alloc (.cells #[.slice none 0 0, .slice none 0 0, .slice none 0 0, .slice none 0 0, .string ⟨#[]⟩, .string ⟨#[]⟩, .string ⟨#[]⟩, .string ⟨#[]⟩, .string ⟨#[]⟩, .string ⟨#[]⟩, .string ⟨#[]⟩, .string ⟨#[]⟩, .string ⟨#[]⟩, .string ⟨#[]⟩] 29))
  rw [load3] at HL3
  refine HL3.mono ?_
  clear HL3
  intro e w3 hp
  cases hp with
  | @bad u3 _ _ _ he3 hb3 =>
  obtain ⟨T3, x3, rfl⟩ := he3.some
  have E3 := Lib.hid he3
  have N3 := Lib.hid ((hb3.block _ (at_lt N2A.out)).trans N2A.out)
  have N3A := Lib.hid (((Below.refl w3.heap.size w3).alloc (Nat.le_refl _) (.cells #[.slice none 0 0, .slice none 0 0, .slice none 0 0, .slice none 0 0, .string ⟨#[]⟩, .string ⟨#[]⟩, .string ⟨#[]⟩, .string ⟨#[]⟩, .string ⟨#[]⟩, .string ⟨#[]⟩, .string ⟨#[]⟩, .string ⟨#[]⟩, .string ⟨#[]⟩, .string ⟨#[]⟩] 29)).block _ (at_lt N3.out) |>.trans N3.out)
  have X3 := Lib.hid (X2.out.trans ((hb3.trans (((Below.refl w3.heap.size w3).alloc (Nat.le_refl _) (.cells #[.slice none 0 0, .slice none 0 0, .slice none 0 0, .slice none 0 0, .string ⟨#[]⟩, .string ⟨#[]⟩, .string ⟨#[]⟩, .string ⟨#[]⟩, .string ⟨#[]⟩, .string ⟨#[]⟩, .string ⟨#[]⟩, .string ⟨#[]⟩, .string ⟨#[]⟩, .string ⟨#[]⟩] 29)).mono hb3.size)).mono X2.out.size))
  have Y3 := Lib.hid ((Below.refl w3.heap.size w3).alloc (Nat.le_refl _) (.cells #[.slice none 0 0, .slice none 0 0, .slice none 0 0, .slice none 0 0, .string ⟨#[]⟩, .string ⟨#[]⟩, .string ⟨#[]⟩, .string ⟨#[]⟩, .string ⟨#[]⟩, .string ⟨#[]⟩, .string ⟨#[]⟩, .string ⟨#[]⟩, .string ⟨#[]⟩, .string ⟨#[]⟩] 29))
  have U3 := Lib.hid hb3
  have Z3 := Lib.hid (Z2.out.trans ((U3.out.trans (Y3.out.mono U3.out.size)).mono Z2.out.size))
  clear he3 hb3
  unfold confV
  go_wp2_with fail
  have HL4 := load_calls ex4 (w3.alloc (.cells #[.slice none 0 0, .slice none 0 0, .slice none 0 0, .slice none 0 0, .string ⟨#[]⟩, .string ⟨#[]⟩, .string ⟨#[]⟩, .string ⟨#[]⟩, .string ⟨#[]⟩, .string ⟨#[]⟩, .string ⟨#[]⟩, .string ⟨#[]⟩, .string ⟨#[]⟩, .string ⟨#[]⟩] 29))
  rw [load4] at HL4
  refine HL4.mono ?_
  clear HL4
  intro e w4 hp
  cases hp with
  | @bad u4 _ _ _ he4 hb4 =>
  obtain ⟨T4, x4, rfl⟩ := he4.some
  have E4 := Lib.hid he4
  have N4 := Lib.hid ((hb4.block _ (at_lt N3A.out)).trans N3A.out)
  have N4A := Lib.hid (((Below.refl w4.heap.size w4).alloc (Nat.le_refl _) (.cells #[.slice none 0 0, .slice none 0 0, .slice none 0 0, .slice none 0 0, .string ⟨#[]⟩, .string ⟨#[]⟩, .string ⟨#[]⟩, .string ⟨#[]⟩, .string ⟨#[]⟩, .string ⟨#[]⟩, .string ⟨#[]⟩, .string ⟨#[]⟩, .string ⟨#[]⟩, .string ⟨#[]⟩] 29)).block _ (at_lt N4.out) |>.trans N4.out)
  have X4 := Lib.hid (X3.out.trans ((hb4.trans (((Below.refl w4.heap.size w4).alloc (Nat.le_refl _) (.cells #[.slice none 0 0, .slice none 0 0, .slice none 0 0, .slice none 0 0, .string ⟨#[]⟩, .string ⟨#[]⟩, .string ⟨#[]⟩, .string ⟨#[]⟩, .string ⟨#[]⟩, .string ⟨#[]⟩, .string ⟨#[]⟩, .string ⟨#[]⟩, .string ⟨#[]⟩, .string ⟨#[]⟩] 29)).mono hb4.size)).mono X3.out.size))
  have Y4 := Lib.hid ((Below.refl w4.heap.size w4).alloc (Nat.le_refl _) (.cells #[.slice none 0 0, .slice none 0 0, .slice none 0 0, .slice none 0 0, .string ⟨#[]⟩, .string ⟨#[]⟩, .string ⟨#[]⟩, .string ⟨#[]⟩, .string ⟨#[]⟩, .string ⟨#[]⟩, .string ⟨#[]⟩, .string ⟨#[]⟩, .string ⟨#[]⟩, .string ⟨#[]⟩] 29))
  have U4 := Lib.hid hb4
  have Z4 := Lib.hid (Z3.out.trans ((U4.out.trans (Y4.out.mono U4.out.size)).mono Z3.out.size))
  clear he4 hb4
  unfold confV
  have HRX := HR.out.below Z4.out
  obtain ⟨_, _, hv0, r0⟩ := HRX.cons
  obtain ⟨_, _, hv3, r3⟩ := HRX.accs
  injection hv0 with z1 z5 z2
  injection hv3 with z3 z6 z4
  subst z1 z2 z3 z4
  clear z5 z6
  have r0c := r0.cap
  have r3c := r3.cap
  have r0m := r0.max
  have r3m := r3.max
  unfold maxLen at r0m r3m
  have r0c : 2 ≤ k0 := r0c
  have r3c : 1 ≤ k3 := r3c
  obtain ⟨g, o, rfl, hg, _, hat⟩ := con_at r0 (i := 1) (by decide)
  obtain ⟨g3, o3, rfl, hg3, -, -, a2⟩ := acc_at r3 rfl (i := 0) (by decide)
  obtain ⟨d0, d1, d2, d3, d4, d5, d6, d7, d8, d9⟩ := hat
  have d0 : (w4.alloc (.cells #[.slice none 0 0, .slice none 0 0, .slice none 0 0, .slice none 0 0, .string ⟨#[]⟩, .string ⟨#[]⟩, .string ⟨#[]⟩, .string ⟨#[]⟩, .string ⟨#[]⟩, .string ⟨#[]⟩, .string ⟨#[]⟩, .string ⟨#[]⟩, .string ⟨#[]⟩, .string ⟨#[]⟩] 29)).cell? ⟨g, o + 10, none⟩ = some (.string ⟨#[98]⟩) := d0
  have d1 : (w4.alloc (.cells #[.slice none 0 0, .slice none 0 0, .slice none 0 0, .slice none 0 0, .string ⟨#[]⟩, .string ⟨#[]⟩, .string ⟨#[]⟩, .string ⟨#[]⟩, .string ⟨#[]⟩, .string ⟨#[]⟩, .string ⟨#[]⟩, .string ⟨#[]⟩, .string ⟨#[]⟩, .string ⟨#[]⟩] 29)).cell? ⟨g, o + 11, none⟩ = some (.int .i64 2) := d1
  have d2 : (w4.alloc (.cells #[.slice none 0 0, .slice none 0 0, .slice none 0 0, .slice none 0 0, .string ⟨#[]⟩, .string ⟨#[]⟩, .string ⟨#[]⟩, .string ⟨#[]⟩, .string ⟨#[]⟩, .string ⟨#[]⟩, .string ⟨#[]⟩, .string ⟨#[]⟩, .string ⟨#[]⟩, .string ⟨#[]⟩] 29)).cell? ⟨g, o + 12, none⟩ = some (.int .i64 5) := d2
  have d3 : (w4.alloc (.cells #[.slice none 0 0, .slice none 0 0, .slice none 0 0, .slice none 0 0, .string ⟨#[]⟩, .string ⟨#[]⟩, .string ⟨#[]⟩, .string ⟨#[]⟩, .string ⟨#[]⟩, .string ⟨#[]⟩, .string ⟨#[]⟩, .string ⟨#[]⟩, .string ⟨#[]⟩, .string ⟨#[]⟩] 29)).cell? ⟨g, o + 13, none⟩ = some (.int .i64 4096) := d3
  have d4 : (w4.alloc (.cells #[.slice none 0 0, .slice none 0 0, .slice none 0 0, .slice none 0 0, .string ⟨#[]⟩, .string ⟨#[]⟩, .string ⟨#[]⟩, .string ⟨#[]⟩, .string ⟨#[]⟩, .string ⟨#[]⟩, .string ⟨#[]⟩, .string ⟨#[]⟩, .string ⟨#[]⟩, .string ⟨#[]⟩] 29)).cell? ⟨g, o + 14, none⟩ = some (.int .i64 3) := d4
  have d5 : (w4.alloc (.cells #[.slice none 0 0, .slice none 0 0, .slice none 0 0, .slice none 0 0, .string ⟨#[]⟩, .string ⟨#[]⟩, .string ⟨#[]⟩, .string ⟨#[]⟩, .string ⟨#[]⟩, .string ⟨#[]⟩, .string ⟨#[]⟩, .string ⟨#[]⟩, .string ⟨#[]⟩, .string ⟨#[]⟩] 29)).cell? ⟨g, o + 15, none⟩ = some (.int .i64 4096) := d5
  have d6 : (w4.alloc (.cells #[.slice none 0 0, .slice none 0 0, .slice none 0 0, .slice none 0 0, .string ⟨#[]⟩, .string ⟨#[]⟩, .string ⟨#[]⟩, .string ⟨#[]⟩, .string ⟨#[]⟩, .string ⟨#[]⟩, .string ⟨#[]⟩, .string ⟨#[]⟩, .string ⟨#[]⟩, .string ⟨#[]⟩] 29)).cell? ⟨g, o + 16, none⟩ = some (.int .i64 2) := d6
  have d7 : (w4.alloc (.cells #[.slice none 0 0, .slice none 0 0, .slice none 0 0, .slice none 0 0, .string ⟨#[]⟩, .string ⟨#[]⟩, .string ⟨#[]⟩, .string ⟨#[]⟩, .string ⟨#[]⟩, .string ⟨#[]⟩, .string ⟨#[]⟩, .string ⟨#[]⟩, .string ⟨#[]⟩, .string ⟨#[]⟩] 29)).cell? ⟨g, o + 17, none⟩ = some (.int .i64 9) := d7
  have d8 : (w4.alloc (.cells #[.slice none 0 0, .slice none 0 0, .slice none 0 0, .slice none 0 0, .string ⟨#[]⟩, .string ⟨#[]⟩, .string ⟨#[]⟩, .string ⟨#[]⟩, .string ⟨#[]⟩, .string ⟨#[]⟩, .string ⟨#[]⟩, .string ⟨#[]⟩, .string ⟨#[]⟩, .string ⟨#[]⟩] 29)).cell? ⟨g, o + 18, none⟩ = some (.int .i64 0) := d8
  have d9 : (w4.alloc (.cells #[.slice none 0 0, .slice none 0 0, .slice none 0 0, .slice none 0 0, .string ⟨#[]⟩, .string ⟨#[]⟩, .string ⟨#[]⟩, .string ⟨#[]⟩, .string ⟨#[]⟩, .string ⟨#[]⟩, .string ⟨#[]⟩, .string ⟨#[]⟩, .string ⟨#[]⟩, .string ⟨#[]⟩] 29)).cell? ⟨g, o + 19, none⟩ = some (.string ⟨#[120, 92, 100]⟩) := d9
  have a2 : (w4.alloc (.cells #[.slice none 0 0, .slice none 0 0, .slice none 0 0, .slice none 0 0, .string ⟨#[]⟩, .string ⟨#[]⟩, .string ⟨#[]⟩, .string ⟨#[]⟩, .string ⟨#[]⟩, .string ⟨#[]⟩, .string ⟨#[]⟩, .string ⟨#[]⟩, .string ⟨#[]⟩, .string ⟨#[]⟩] 29)).cell? ⟨g3, o3 + 2, none⟩ = some (.int .i64 3) := by
    have h := a2
    rw [show o3 + 0 * 3 + 2 = o3 + 2 by omega] at h
    exact h
  have NX := N4A.out
  have Y5 := (Below.refl (w4.alloc (.cells #[.slice none 0 0, .slice none 0 0, .slice none 0 0, .slice none 0 0, .string ⟨#[]⟩, .string ⟨#[]⟩, .string ⟨#[]⟩, .string ⟨#[]⟩, .string ⟨#[]⟩, .string ⟨#[]⟩, .string ⟨#[]⟩, .string ⟨#[]⟩, .string ⟨#[]⟩, .string ⟨#[]⟩] 29)).heap.size (w4.alloc (.cells #[.slice none 0 0, .slice none 0 0, .slice none 0 0, .slice none 0 0, .string ⟨#[]⟩, .string ⟨#[]⟩, .string ⟨#[]⟩, .string ⟨#[]⟩, .string ⟨#[]⟩, .string ⟨#[]⟩, .string ⟨#[]⟩, .string ⟨#[]⟩, .string ⟨#[]⟩, .string ⟨#[]⟩] 29))).alloc (Nat.le_refl _) (.cells #[.string ⟨#[98]⟩, .int .i64 2, .int .i64 5, .int .i64 4096, .int .i64 3, .int .i64 4096, .int .i64 2, .int .i64 9, .int .i64 0, .string ⟨#[120, 92, 100]⟩] 42)
  have NX5 := (Y5.block _ (at_lt NX)).trans NX
  have f3 := (at_cell NX5 3 : _ = some (Value.slice (some ⟨g3, o3, none⟩) 1 k3))
  have f5 := (at_cell NX5 5 : _ = some (Value.string ⟨#[92, 122]⟩))
  have fa := (Y5.cell (p := ⟨g3, o3 + 2, none⟩) hg3).trans a2
  have X5 := Lib.hid (X4.out.trans (Y5.mono X4.out.size))
  have Z5 := Lib.hid (Z4.out.trans (Y5.mono Z4.out.size))
  have HY5 := Lib.hid Y5
  have HNX5 := Lib.hid NX5
  clear r0 r3 HRX Y5 NX5
  have c0 := (at_cell NX 0 : _ = some (Value.slice (some ⟨g, o, none⟩) 2 k0))
  have c1 := (at_cell NX 1 : _ = some (Value.slice p1 1 k1))
  have c2 := (at_cell NX 2 : _ = some (Value.slice p2 1 k2))
  have c3 := (at_cell NX 3 : _ = some (Value.slice (some ⟨g3, o3, none⟩) 1 k3))
  have c5 := (at_cell NX 5 : _ = some (Value.string ⟨#[92, 122]⟩))
  have V4 := Lib.hid (Y4.out.trans (HY5.out.mono Y4.out.size))
  have V3 := Lib.hid (Y3.out.trans ((U4.out.trans (V4.out.mono U4.out.size)).mono Y3.out.size))
  have V2 := Lib.hid (Y2.out.trans ((U3.out.trans (V3.out.mono U3.out.size)).mono Y2.out.size))
  go_wp2_with fail
  generalize ((w4.alloc (.cells #[.slice none 0 0, .slice none 0 0, .slice none 0 0, .slice none 0 0, .string ⟨#[]⟩, .string ⟨#[]⟩, .string ⟨#[]⟩, .string ⟨#[]⟩, .string ⟨#[]⟩, .string ⟨#[]⟩, .string ⟨#[]⟩, .string ⟨#[]⟩, .string ⟨#[]⟩, .string ⟨#[]⟩] 29)).alloc (.cells #[.string ⟨#[98]⟩, .int .i64 2, .int .i64 5, .int .i64 4096, .int .i64 3, .int .i64 4096, .int .i64 2, .int .i64 9, .int .i64 0, .string ⟨#[120, 92, 100]⟩] 42)) = W5 at *
  have D0 := Lib.hid (Below.refl W5.heap.size W5)
  clear d0 d1 d2 d3 d4 d5 d6 d7 d8 d9 a2 f3 f5 fa c0 c1 c2 c3 c5 NX
  refine (E2.out.of (V2.out.trans (D0.out.mono V2.out.size)) (HTab.out.below (X5.out.trans (D0.out.mono X5.out.size)))).mono ?_
  rintro e a1 ⟨rfl, hb⟩
  have D1 := Lib.hid (D0.out.trans (hb.mono D0.out.size))
  clear hb
  go_wp2_with fail
  refine (E2.out.line (by decide) (V2.out.trans (D1.out.mono V2.out.size)) (HTab.out.below (X5.out.trans (D1.out.mono X5.out.size)))).mono ?_
  rintro e a2 ⟨rfl, hb⟩
  have D2 := Lib.hid (D1.out.trans (hb.mono D1.out.size))
  clear hb
  go_wp2_with fail
  refine (E3.out.of (V3.out.trans (D2.out.mono V3.out.size)) (HTab.out.below (X5.out.trans (D2.out.mono X5.out.size)))).mono ?_
  rintro e a3 ⟨rfl, hb⟩
  have D3 := Lib.hid (D2.out.trans (hb.mono D2.out.size))
  clear hb
  go_wp2_with fail
  refine (E3.out.line (by decide) (V3.out.trans (D3.out.mono V3.out.size)) (HTab.out.below (X5.out.trans (D3.out.mono X5.out.size)))).mono ?_
  rintro e a4 ⟨rfl, hb⟩
  have D4 := Lib.hid (D3.out.trans (hb.mono D3.out.size))
  clear hb
  go_wp2_with fail
  refine (E4.out.of (V4.out.trans (D4.out.mono V4.out.size)) (HTab.out.below (X5.out.trans (D4.out.mono X5.out.size)))).mono ?_
  rintro e a5 ⟨rfl, hb⟩
  have D5 := Lib.hid (D4.out.trans (hb.mono D4.out.size))
  clear hb
  have NX := (D5.out.block _ (at_lt HNX5.out)).trans HNX5.out
  have c0 := (at_cell NX 0 : _ = some (Value.slice (some ⟨g, o, none⟩) 2 k0))
  have c1 := (at_cell NX 1 : _ = some (Value.slice p1 1 k1))
  have c2 := (at_cell NX 2 : _ = some (Value.slice p2 1 k2))
  have c3 := (at_cell NX 3 : _ = some (Value.slice (some ⟨g3, o3, none⟩) 1 k3))
  have c4 := (at_cell NX 4 : _ = some (Value.string ⟨#[]⟩))
  have c5 := (at_cell NX 5 : _ = some (Value.string ⟨#[92, 122]⟩))
  have c6 := (at_cell NX 6 : _ = some (Value.string ⟨#[]⟩))
  have c7 := (at_cell NX 7 : _ = some (Value.string ⟨#[]⟩))
  have c8 := (at_cell NX 8 : _ = some (Value.string ⟨#[]⟩))
  have c9 := (at_cell NX 9 : _ = some (Value.string ⟨#[]⟩))
  have c10 := (at_cell NX 10 : _ = some (Value.string ⟨#[]⟩))
  have c11 := (at_cell NX 11 : _ = some (Value.string ⟨#[]⟩))
  have c12 := (at_cell NX 12 : _ = some (Value.string ⟨#[]⟩))
  have c13 := (at_cell NX 13 : _ = some (Value.string ⟨#[]⟩))
  clear NX
  obtain ⟨_, _, hv, r5⟩ := (HR.out.below (Z5.out.trans (D5.out.mono Z5.out.size))).cons
  injection hv with z1 z5 z2
  subst z1 z2
  clear z5
  have HF := find_calls cfX.cons [98] _ k0 (.slice p1 1 k1) (.slice p2 1 k2) (.slice (some ⟨g3, o3, none⟩) 1 k3) [] sBz [] [] [] [] [] [] [] [] 2 rfl _ r5
  rw [show fIdx cfX.cons [98] = 1 by rfl] at HF
  have HF := Lib.hid HF
  unfold confV at HF
  clear r5
  go_wp2_with fail
  refine HF.out.mono ?_
  rintro e a6 ⟨rfl, hb⟩
  have D6 := Lib.hid (D5.out.trans (hb.mono D5.out.size))
  clear hb HF c0 c1 c2 c3 c4 c5 c6 c7 c8 c9 c10 c11 c12 c13
  have NX := (D6.out.block _ (at_lt HNX5.out)).trans HNX5.out
  have c0 := (at_cell NX 0 : _ = some (Value.slice (some ⟨g, o, none⟩) 2 k0))
  have c1 := (at_cell NX 1 : _ = some (Value.slice p1 1 k1))
  have c2 := (at_cell NX 2 : _ = some (Value.slice p2 1 k2))
  have c3 := (at_cell NX 3 : _ = some (Value.slice (some ⟨g3, o3, none⟩) 1 k3))
  have c4 := (at_cell NX 4 : _ = some (Value.string ⟨#[]⟩))
  have c5 := (at_cell NX 5 : _ = some (Value.string ⟨#[92, 122]⟩))
  have c6 := (at_cell NX 6 : _ = some (Value.string ⟨#[]⟩))
  have c7 := (at_cell NX 7 : _ = some (Value.string ⟨#[]⟩))
  have c8 := (at_cell NX 8 : _ = some (Value.string ⟨#[]⟩))
  have c9 := (at_cell NX 9 : _ = some (Value.string ⟨#[]⟩))
  have c10 := (at_cell NX 10 : _ = some (Value.string ⟨#[]⟩))
  have c11 := (at_cell NX 11 : _ = some (Value.string ⟨#[]⟩))
  have c12 := (at_cell NX 12 : _ = some (Value.string ⟨#[]⟩))
  have c13 := (at_cell NX 13 : _ = some (Value.string ⟨#[]⟩))
  clear NX
  obtain ⟨_, _, hv, r6⟩ := (HR.out.below (Z5.out.trans (D6.out.mono Z5.out.size))).cons
  injection hv with z1 z5 z2
  subst z1 z2
  clear z5
  have HF := find_calls cfX.cons [120] _ k0 (.slice p1 1 k1) (.slice p2 1 k2) (.slice (some ⟨g3, o3, none⟩) 1 k3) [] sBz [] [] [] [] [] [] [] [] 2 rfl _ r6
  rw [show fIdx cfX.cons [120] = -1 by rfl] at HF
  have HF := Lib.hid HF
  unfold confV at HF
  clear r6
  go_wp2_with fail
  refine HF.out.mono ?_
  rintro e a7 ⟨rfl, hb⟩
  have D7 := Lib.hid (D6.out.trans (hb.mono D6.out.size))
  clear hb HF c0 c1 c2 c3 c4 c5 c6 c7 c8 c9 c10 c11 c12 c13
  have NX := (D7.out.block _ (at_lt HNX5.out)).trans HNX5.out
  have c0 := (at_cell NX 0 : _ = some (Value.slice (some ⟨g, o, none⟩) 2 k0))
  have c1 := (at_cell NX 1 : _ = some (Value.slice p1 1 k1))
  have c2 := (at_cell NX 2 : _ = some (Value.slice p2 1 k2))
  have c3 := (at_cell NX 3 : _ = some (Value.slice (some ⟨g3, o3, none⟩) 1 k3))
  have c4 := (at_cell NX 4 : _ = some (Value.string ⟨#[]⟩))
  have c5 := (at_cell NX 5 : _ = some (Value.string ⟨#[92, 122]⟩))
  have c6 := (at_cell NX 6 : _ = some (Value.string ⟨#[]⟩))
  have c7 := (at_cell NX 7 : _ = some (Value.string ⟨#[]⟩))
  have c8 := (at_cell NX 8 : _ = some (Value.string ⟨#[]⟩))
  have c9 := (at_cell NX 9 : _ = some (Value.string ⟨#[]⟩))
  have c10 := (at_cell NX 10 : _ = some (Value.string ⟨#[]⟩))
  have c11 := (at_cell NX 11 : _ = some (Value.string ⟨#[]⟩))
  have c12 := (at_cell NX 12 : _ = some (Value.string ⟨#[]⟩))
  have c13 := (at_cell NX 13 : _ = some (Value.string ⟨#[]⟩))
  clear NX
  have HI := is_conf cfX _ _ _ _ [] sBz [] [] [] [] [] [] [] [] _ (HR.out.below (Z5.out.trans (D7.out.mono Z5.out.size))) rfl (ok_szd okX)
  have HI := Lib.hid HI
  unfold confV at HI
  go_wp2_with fail
  refine HI.out.mono ?_
  rintro e a8 ⟨r, rfl, hr, hb⟩
  obtain rfl : r = true := hr.2 back_x
  have D8 := Lib.hid (D7.out.trans (hb.mono D7.out.size))
  clear hb HI hr c0 c1 c2 c3 c4 c5 c6 c7 c8 c9 c10 c11 c12 c13
  go_wp2_with fail
  go_ret
  exact ⟨rfl, X5.out.trans (D8.out.mono X5.out.size)⟩
end Go.Proofs.YtajfdachpdkbcaaGreatDoor.Conf
end

section
namespace Go.Proofs.YtajfdachpdkbcaaGreatDoor.Reg
open Go Go.RowKit

abbrev dsAt (ds : List (Option Nat)) (i : Nat) : Option Nat := ds.getD i none
/-- temporaries apart, each waits for earlier ones alone -/
def okG (ops : Array Oper) (ds : List (Option Nat)) (n : Nat) : Bool :=
  ds.length == ops.size && ((List.range ops.size).all fun i => match ops[i]? with
    | some o => o.dst == dsAt ds i && (((dsAt ds i).all fun d => decide (d < n)) && ((deps ops i).all (fun j => decide (j < i)) && (List.range i).all (fun j => (dsAt ds j).isNone || dsAt ds j != dsAt ds i)))
    | none => false)
section
variable {P : Program} {ops : Array Oper} {Q : Exit → Act → World → Prop} {ds : List (Option Nat)} {n : Nat}
structure GAt (ops : Array Oper) (ds : List (Option Nat)) (n i : Nat) (o : Oper) : Prop where
  dst : o.dst = dsAt ds i
  lt : ∀ d, dsAt ds i = some d → d < n
  deps : ∀ j ∈ deps ops i, j < i
  apart : ∀ j, j < i → ∀ d, dsAt ds j = some d → dsAt ds i ≠ some d
theorem okG_at (h : okG ops ds n = true) {i : Nat} {o : Oper} (ho : ops[i]? = some o) : GAt ops ds n i o := by
  simp only [okG, Bool.and_eq_true, List.all_eq_true, List.mem_range] at h
  have hi : i < ops.size := (Array.getElem?_eq_some_iff.1 ho).1
  have := h.2 i hi
  rw [ho] at this
  simp only [Bool.and_eq_true, beq_iff_eq, List.all_eq_true, List.mem_range, decide_eq_true_eq] at this
  refine ⟨this.1, fun d hd => ?_, this.2.2.1, fun j hj d hd e => ?_⟩
  · have h2 := this.2.1
    rw [hd] at h2
    simpa using h2
  · have h2 := this.2.2.2 j hj
    rw [hd, e] at h2
    simp at h2
theorem okG_len (h : okG ops ds n = true) : ds.length = ops.size := by
  simp only [okG, Bool.and_eq_true, beq_iff_eq] at h; exact h.1
theorem okG_apart (h : okG ops ds n = true) {i j : Nat} (hi : i < ops.size) (hj : j < ops.size) (hne : i ≠ j) {d : Nat} (hd : dsAt ds i = some d) : dsAt ds j ≠ some d := by
  rcases Nat.lt_or_gt_of_ne hne with hl | hl
  · exact (okG_at h (Array.getElem?_eq_some_iff.2 ⟨hj, rfl⟩)).apart i hl d hd
  · intro e
    exact (okG_at h (Array.getElem?_eq_some_iff.2 ⟨hi, rfl⟩)).apart j hl d e hd
theorem readyG_all (hok : okG ops ds n = true) {listed : Array Bool} (hl : listed.size = ops.size) (hr : Region.ready .any ops listed = []) : ∀ i, i < ops.size → listed.getD i false = true := by
  intro i
  induction i using Nat.strongRecOn with
  | ind i ih =>
    intro hi
    cases hb : listed.getD i false with
    | true => rfl
    | false =>
      have ho : ops[i]? = some ops[i] := Array.getElem?_eq_some_iff.2 ⟨hi, rfl⟩
      have hm : i ∈ Region.ready .any ops listed := mem_ready.2 ⟨by rw [getD_mem (by omega)] at hb ⊢; exact hb, _, ho, fun e he hbd => by
        have hd : e.on ∈ deps ops i := by
          unfold deps
          rw [ho]
          exact List.mem_map.2 ⟨e, List.mem_filter.2 ⟨by simpa using he, hbd⟩, rfl⟩
        have hlt := (okG_at hok ho).deps _ hd
        exact ih _ hlt (by omega)⟩
      rw [hr] at hm; cases hm
/-- what an operation may look at -/
structure GSees (ops : Array Oper) (ds : List (Option Nat)) (Sp : Nat → World → Value → Prop) (J : Array Bool → World → Prop) (a0 : Act) (listed : Array Bool) (i : Nat) (a : Act) (w : World) : Prop where
  size : listed.size = ops.size
  un : listed.getD i false = false
  closed : ∀ k, k < ops.size → listed.getD k false = true → ∀ j ∈ deps ops k, listed.getD j false = true
  dep : ∀ j ∈ deps ops i, ∃ v, (∀ d, dsAt ds j = some d → a.tmps[d]? = some v) ∧ Sp j w v
  other : ∀ t, (∀ k, k < ops.size → listed.getD k false = true → dsAt ds k ≠ some t) → a.tmps[t]? = a0.tmps[t]?
  inv : J listed w
structure GHolds (ops : Array Oper) (ds : List (Option Nat)) (Sp : Nat → World → Value → Prop) (J : Array Bool → World → Prop) (a0 : Act) (listed : Array Bool) (a : Act) (w : World) : Prop where
  size : a.tmps.size = a0.tmps.size
  defers : a.defers = a0.defers
  closed : ∀ k, k < ops.size → listed.getD k false = true → ∀ j ∈ deps ops k, listed.getD j false = true
  other : ∀ t, (∀ i, i < ops.size → listed.getD i false = true → dsAt ds i ≠ some t) → a.tmps[t]? = a0.tmps[t]?
  done : ∀ i, i < ops.size → listed.getD i false = true → ∃ v, (∀ d, dsAt ds i = some d → a.tmps[d]? = some v) ∧ Sp i w v
  inv : J listed w
variable {Sp : Nat → World → Value → Prop} {J : Array Bool → World → Prop} {a0 : Act}
theorem put_size (a : Act) (d : Option Nat) (v : Value) : (a.put d v).tmps.size = a.tmps.size := by cases d <;> simp [Act.put]
theorem put_defers (a : Act) (d : Option Nat) (v : Value) : (a.put d v).defers = a.defers := by cases d <;> rfl
theorem put_ne (a : Act) {d : Option Nat} (v : Value) {t : Nat} (h : d ≠ some t) : (a.put d v).tmps[t]? = a.tmps[t]? := by
  cases d with
  | none => rfl
  | some d =>
    show (a.tmps.setIfInBounds d v)[t]? = _
    rw [Array.getElem?_setIfInBounds_ne (fun e => h (by rw [e]))]
theorem put_at (a : Act) {t : Nat} (v : Value) (h : t < a.tmps.size) : (a.put (some t) v).tmps[t]? = some v := by
  show (a.tmps.setIfInBounds t v)[t]? = _
  rw [Array.getElem?_setIfInBounds_self_of_lt h]
theorem any_guarded (hok : okG ops ds a0.tmps.size = true)
    (step : ∀ i o listed a w, ops[i]? = some o → GSees ops ds Sp J a0 listed i a w →
      (Region.wanted o (yielded ops a.tmps) = true → Oper.wp P o a w (Leaves Sp J listed i o.dst a w) Q) ∧ (Region.wanted o (yielded ops a.tmps) = false → Leaves Sp J listed i o.dst a w (a.put o.dst undef) w))
    (fin : ∀ listed a w, (∀ i, i < ops.size → listed.getD i false = true) → GHolds ops ds Sp J a0 listed a w → Q .normal a w) :
    ∀ (fuel : Nat) (listed : Array Bool) (a : Act) (w : World), listed.size = ops.size → left listed ≤ fuel → GHolds ops ds Sp J a0 listed a w → wpAny P .any ops Q fuel listed a w
  | 0, listed, a, w, hl, hf, h => by
    have hall : ∀ i, i < ops.size → listed.getD i false = true := fun i hi => left_zero (by omega) (by omega)
    exact ⟨all_ready hl hall, fin listed a w hall h⟩
  | fuel + 1, listed, a, w, hl, hf, h => by
    refine ⟨fun hr => fin listed a w (readyG_all hok hl hr) h, fun i hi => ?_⟩
    obtain ⟨hun, o, ho, hdep⟩ := mem_ready.1 hi
    have hi' : i < ops.size := (Array.getElem?_eq_some_iff.1 ho).1
    have hk := okG_at hok ho
    have hun2 : listed.getD i false = false := by rw [getD_mem (by omega)] at hun ⊢; exact hun
    have hdeps : ∀ j ∈ deps ops i, j < ops.size ∧ listed.getD j false = true := fun j hj => by
      have hlt := hk.deps j hj
      unfold deps at hj
      rw [ho] at hj
      obtain ⟨e, he, rfl⟩ := List.mem_map.1 hj
      have he := List.mem_filter.1 he
      exact ⟨by omega, hdep e (by simpa using he.1) he.2⟩
    have hstep := step i o listed a w ho ⟨hl, hun2, h.closed, fun j hj => h.done j (hdeps j hj).1 (hdeps j hj).2, h.other, h.inv⟩
    have key : ∀ a' w', Leaves Sp J listed i o.dst a w a' w' → wpAny P .any ops Q fuel (listed.setIfInBounds i true) a' w' := by
      rintro a' w' ⟨v, rfl, hv, hmono, hJ⟩
      refine any_guarded hok step fin fuel _ _ _ (by simpa using hl) (by have := left_set (listed := listed) (i := i) (by omega) hun; omega) ⟨?_, ?_, ?_, ?_, ?_, hJ⟩
      · rw [put_size]; exact h.size
      · rw [put_defers]; exact h.defers
      · intro k hk2 hlk j hj
        by_cases hik : i = k
        · subst hik
          exact getD_set_true (hdeps j hj).2
        · rw [getD_set_ne false hik] at hlk
          exact getD_set_true (h.closed k hk2 hlk j hj)
      · intro t ht
        have hit : (listed.setIfInBounds i true).getD i false = true := by
          rw [getD_mem (by simpa using (by omega : i < listed.size))]; simp
        rw [put_ne a v (by rw [hk.dst]; exact ht i hi' hit)]
        exact h.other t fun k hk2 hlk => ht k hk2 (getD_set_true hlk)
      · intro j hj hlj
        by_cases hij : i = j
        · subst hij
          refine ⟨v, fun d hd => ?_, hv⟩
          rw [hk.dst, hd]
          exact put_at a v (by rw [h.size]; exact hk.lt d hd)
        · rw [getD_set_ne false hij] at hlj
          obtain ⟨u, e1, e2⟩ := h.done j hj hlj
          refine ⟨u, fun d hd => ?_, hmono j u (Ne.symm hij) hlj e2⟩
          rw [put_ne a v (by rw [hk.dst]; exact okG_apart hok hj hi' (Ne.symm hij) hd)]
          exact e1 d hd
    unfold wpOp
    rw [ho]
    dsimp only
    cases hw : Region.wanted o (yielded ops a.tmps) with
    | true =>
      rw [if_pos rfl]
      exact .inl (Oper.wp_mono key (hstep.1 hw))
    | false =>
      rw [if_neg (by simp)]
      exact key _ _ (hstep.2 hw)
/-- the region, each operation told once; the frame behind it: 'slots' are the temporaries that it writes, each with its operation -/
theorem wp_guarded {id : Nat} {a : Act} {w : World} (hm : P.follows .mixedOrders = true) (ds : List (Option Nat)) (Sp : Nat → World → Value → Prop) (J : Array Bool → World → Prop) (slots : List (Nat × Nat)) (hok : okG ops ds a.tmps.size = true)
    (hsl : (slots.all fun p => decide (p.2 < ops.size) && dsAt ds p.2 == some p.1) = true) (hnd : (slots.map (·.1)).Nodup) (hall : ((List.range ops.size).all fun i => (dsAt ds i).all fun d => (slots.map (·.1)).contains d) = true)
    (h0 : J (Array.replicate ops.size false) w.drew)
    (step : ∀ i o listed a' w', ops[i]? = some o → GSees ops ds Sp J a listed i a' w' →
      (Region.wanted o (yielded ops a'.tmps) = true → Oper.wp P o a' w' (Leaves Sp J listed i o.dst a' w') Q) ∧ (Region.wanted o (yielded ops a'.tmps) = false → Leaves Sp J listed i o.dst a' w' (a'.put o.dst undef) w'))
    (fin : ∀ listed (vs : List Value) w', vs.length = slots.length → (∀ (k : Nat) (p : Nat × Nat) (v : Value), slots[k]? = some p → vs[k]? = some v → Sp p.2 w' v) → (∀ i, i < ops.size → ∃ v, Sp i w' v) → (∀ i, i < ops.size → listed.getD i false = true) → J listed w' → Q .normal (puts a ((slots.map (·.1)).zip vs)) w') :
    (Code.region id ops true).wp P Q a w := by
  refine wp_region_any hm ?_
  refine any_guarded (a0 := a) hok step (fun listed a' w' hal h => ?_) _ _ _ _ (by simp) ?_ ⟨rfl, rfl, fun k hk hf => ?_, fun _ _ => rfl, fun i hi hf => ?_, h0⟩
  · simp only [List.all_eq_true, Bool.and_eq_true, decide_eq_true_eq, beq_iff_eq] at hsl
    have hv : ∀ p ∈ slots, ∃ v, a'.tmps[p.1]? = some v ∧ Sp p.2 w' v := fun p hp => by
      obtain ⟨h1, h2⟩ := hsl p hp
      obtain ⟨v, e, hs⟩ := h.done p.2 h1 (hal _ h1)
      exact ⟨v, e p.1 h2, hs⟩
    let vs := slots.map fun p => a'.tmps.getD p.1 undef
    have hfr := frame_eq h.size h.defers ((slots.map (·.1)).zip vs) (by
      rw [List.map_fst_zip (by simp [vs])]; exact hnd) (fun p hp => by
      have hp2 := (List.of_mem_zip (a := p.1) (b := p.2) hp).1
      obtain ⟨q, hq, e⟩ := List.mem_map.1 hp2
      obtain ⟨h1, h2⟩ := hsl q hq
      rw [← e]
      exact (okG_at hok (Array.getElem?_eq_some_iff.2 ⟨h1, rfl⟩)).lt _ h2) (fun p hp => by
      obtain ⟨k, hk, e⟩ := List.mem_iff_getElem.1 hp
      rw [List.getElem_zip] at e
      rw [← e]
      rw [List.length_zip] at hk
      have hk1 : k < slots.length := by simp at hk; omega
      obtain ⟨v, e1, _⟩ := hv slots[k] (List.getElem_mem hk1)
      simp only [vs, List.getElem_map]
      rw [arr_getD e1]; exact e1) (fun t ht => h.other t fun i hi _ e => by
      simp only [List.all_eq_true, List.mem_range] at hall
      have h3 := hall i hi
      rw [e] at h3
      have h3 : t ∈ slots.map (·.1) := by simpa using h3
      obtain ⟨k, hk, e2⟩ := List.mem_iff_getElem.1 h3
      have hkl : k < ((slots.map (·.1)).zip vs).length := by rw [List.length_zip]; simp [vs] at hk ⊢; omega
      exact ht _ (List.getElem_mem hkl) (by rw [List.getElem_zip]; exact e2))
    rw [hfr]
    refine fin listed vs w' (by simp [vs]) (fun k p v hp hvk => ?_) (fun i hi => (h.done i hi (hal i hi)).imp fun v hv => hv.2) hal h.inv
    obtain ⟨hk1, rfl⟩ := List.getElem?_eq_some_iff.1 hp
    obtain ⟨hk2, rfl⟩ := List.getElem?_eq_some_iff.1 hvk
    obtain ⟨u, e1, e2⟩ := hv slots[k] (List.getElem_mem hk1)
    have h3 : vs[k] = a'.tmps.getD slots[k].1 undef := by simp only [vs, List.getElem_map]
    rw [h3, arr_getD e1]; exact e2
  · exact Nat.le_trans List.countP_le_length (by simp)
  · simp [hk] at hf
  · simp [hi] at hf
/-- a guard decided by what is known of its operation -/
theorem wanted_of {o : Oper} {a : Act} {g : Nat} {want b : Bool} {d : Nat} (hg : o.guard = some (g, want)) (hd : (ops[g]?).bind (·.dst) = some d) (hv : a.tmps[d]? = some (.bool b)) : Region.wanted o (yielded ops a.tmps) = (b == want) := by
  unfold Region.wanted
  rw [hg]
  dsimp only
  unfold yielded
  rw [hd]
  simp [hv]
theorem wanted_none {o : Oper} {y : Nat → Option Bool} (hg : o.guard = none) : Region.wanted o y = true := by
  unfold Region.wanted; rw [hg]
end
end Go.Proofs.YtajfdachpdkbcaaGreatDoor.Reg
end


/-
Layer 21 (gens), the document's: Turn. Written by gen_genreft.py.
Layer 23 (restore): the law RestoreBegins, walked. Written by gen_rstbegins.py.
-/
import Derived.Test.YtngangdjbbbbdaaGreatDoorPack11
import Derived.Deep.DeepCutAuto
import Derived.Deep.CutRange
section
namespace Go.Proofs.YtngangdjbbbbdaaGreatDoor.Gen
open Go.RowKit Go.Proofs.YtngangdjbbbbdaaGreatDoor.Own Go.Proofs.YtngangdjbbbbdaaGreatDoor.Sto
open Go.Proofs.YtngangdjbbbbdaaGreatDoor.Rw (str strs Row1 Texts texts_own below_drew)

structure TuAt (w wr : World) (B R : Nat) (r : St) (p : Option Addr) (c n : Nat) : Prop where
  box : wr.heap[B]? = some (.cells #[.slice p n c, .int .i64 r.most, .int .i64 r.bad] 27 (0, 0))
  res : wr.heap[R]? = some (.cells #[.slice none 0 0, .int .i64 0, .int .i64 0] 27 (0, 0))
  fs : Fs wr p c r.L
  len : r.L.length = n
  below : Below w.heap.size w wr
  far : ∀ g o, p = some ⟨g, o, none⟩ → g ≠ B ∧ g ≠ R ∧ g < wr.heap.size
  hB : w.heap.size ≤ B
  hR : w.heap.size ≤ R
  ne : B ≠ R
section
variable {w wr w5 wx : World} {B R c n c' n' gx : Nat} {r r' : St} {p p' : Option Addr} {C : Int} {a b d : Value}
theorem TuAt.post {W' w' : World} {e : Ending} (h : TuAt w wr B R r p c n) (hb : Below wr.heap.size wr W') (hp : RPost W' p r' C e w') : ∃ p5 c5 n5, e = .returned (.tuple #[.agg #[.slice p5 n5 c5, .int .i64 r'.most, .int .i64 r'.bad], .int .i64 C]) ∧ Fs w' p5 c5 r'.L ∧ r'.L.length = n5 ∧ Below W'.heap.size W' w' ∧
    ∀ g o, p5 = some ⟨g, o, none⟩ → g ≠ B ∧ g ≠ R ∧ g < w'.heap.size ∧ (g < wr.heap.size ∨ W'.heap.size ≤ g) := by
  obtain ⟨p5, c5, rfl, hF, hb5, hpp⟩ := hp
  have hs := hb.size
  have hs5 := hb5.size
  have l1 := at_lt h.box
  have l2 := at_lt h.res
  refine ⟨p5, c5, _, rfl, hF, rfl, hb5, fun g o e => ?_⟩
  rcases hpp with rfl | hpp
  · obtain ⟨h1, h2, h3⟩ := h.far g o e
    exact ⟨h1, h2, by omega, .inl h3⟩
  · obtain ⟨h1, h2⟩ := hpp g o e
    exact ⟨by omega, by omega, h2, .inr h1⟩
theorem hold3 {wr W : World} {B : Nat} {x y z : Value} {T : TypeId} (h : wr.heap[B]? = some (.cells #[x, y, z] T (0, 0))) (hb : Below wr.heap.size wr W) : Below wr.heap.size wr W ∧ W.cell? ⟨B, 0, none⟩ = some x ∧ W.cell? ⟨B, 1, none⟩ = some y ∧ W.cell? ⟨B, 2, none⟩ = some z := by
  have h2 := (hb.block _ (at_lt h)).trans h
  exact ⟨hb, at_cell h2 0, at_cell h2 1, at_cell h2 2⟩
theorem TuAt.same (h : TuAt w wr B R r p c n) (hb : Below wr.heap.size wr wx) : TuAt w wx B R r p c n :=
  ⟨(hb.block _ (at_lt h.box)).trans h.box, (hb.block _ (at_lt h.res)).trans h.res, h.fs.below hb, h.len, h.below.trans (hb.mono h.below.size), fun g o e => ⟨(h.far g o e).1, (h.far g o e).2.1, Nat.lt_of_lt_of_le (h.far g o e).2.2 hb.size⟩, h.hB, h.hR, h.ne⟩
theorem s3_below {N : Nat} {w0 W : World} (hb : Below N w0 W) (hg : N ≤ gx) : Below N w0 (((W.setCell ⟨gx, 0, none⟩ a).setCell ⟨gx, 1, none⟩ b).setCell ⟨gx, 2, none⟩ d) :=
  ((hb.setCell (p := ⟨gx, 0, none⟩) hg a).setCell (p := ⟨gx, 1, none⟩) hg b).setCell (p := ⟨gx, 2, none⟩) hg d
theorem s3_out (W : World) : Out (fun k => k = gx) W (((W.setCell ⟨gx, 0, none⟩ a).setCell ⟨gx, 1, none⟩ b).setCell ⟨gx, 2, none⟩ d) :=
  (((Out.refl (fun k => k = gx) W).setCell (p := ⟨gx, 0, none⟩) (fun _ => rfl) _).setCell (p := ⟨gx, 1, none⟩) (fun _ => rfl) _).setCell (p := ⟨gx, 2, none⟩) (fun _ => rfl) _
/-- what a call of the document's that may write leaves, ahead of the store into the box -/
def TuMid (wr : World) (B R : Nat) (r' : St) (C : Int) (v1 v2 : Value) (wx : World) : Prop :=
  ∃ gx p' c' n', v1 = .pointer (some ⟨gx, 0, none⟩) ∧ v2 = .int .i64 C ∧ wx.heap[gx]? = some (.cells #[.slice p' n' c', .int .i64 r'.most, .int .i64 r'.bad] 27 (0, 0)) ∧ wr.heap.size ≤ gx ∧ Below wr.heap.size wr wx ∧ Fs wx p' c' r'.L ∧ r'.L.length = n' ∧
    ∀ g o, p' = some ⟨g, o, none⟩ → g ≠ B ∧ g ≠ R ∧ g < wx.heap.size
structure Lay (wr w5 : World) (B R : Nat) (r' : St) (p' : Option Addr) (c' n' : Nat) : Prop where
  below : Below wr.heap.size wr w5
  fs : Fs w5 p' c' r'.L
  len : r'.L.length = n'
  far : ∀ g o, p' = some ⟨g, o, none⟩ → g ≠ B ∧ g ≠ R ∧ g < w5.heap.size
theorem mid1 (h : Lay wr w5 B R r' p' c' n') : TuMid wr B R r' C (.pointer (some ⟨w5.heap.size, 0, none⟩)) (.int .i64 C) (w5.alloc (.cells #[.slice p' n' c', .int .i64 r'.most, .int .i64 r'.bad] 27 (0, 0))) := by
  have hba := (Below.refl w5.heap.size w5).alloc (Nat.le_refl _) (.cells #[.slice p' n' c', .int .i64 r'.most, .int .i64 r'.bad] 27 (0, 0))
  exact ⟨_, p', c', n', rfl, rfl, at_new _ _, h.below.size, h.below.trans (hba.mono h.below.size), h.fs.below hba, h.len, fun g o e => ⟨(h.far g o e).1, (h.far g o e).2.1, Nat.lt_of_lt_of_le (h.far g o e).2.2 hba.size⟩⟩
theorem mid2 {x0 y0 z0 : Value} (h : Lay wr w5 B R r' p' c' n') (hx : w5.heap[wr.heap.size]? = some (.cells #[x0, y0, z0] 27 (0, 0))) (hn : ∀ g o, p' = some ⟨g, o, none⟩ → g ≠ wr.heap.size) :
    TuMid wr B R r' C (.pointer (some ⟨wr.heap.size, 0, none⟩)) (.int .i64 C) (((w5.setCell ⟨wr.heap.size, 0, none⟩ (.slice p' n' c')).setCell ⟨wr.heap.size, 1, none⟩ (.int .i64 r'.most)).setCell ⟨wr.heap.size, 2, none⟩ (.int .i64 r'.bad)) := by
  have ho := s3_out (gx := wr.heap.size) (a := .slice p' n' c') (b := .int .i64 r'.most) (d := .int .i64 r'.bad) w5
  exact ⟨_, p', c', n', rfl, rfl, file_box hx, Nat.le_refl _, s3_below h.below (Nat.le_refl _), h.fs.out ho (fun g o e => hn g o e), h.len, fun g o e => ⟨(h.far g o e).1, (h.far g o e).2.1, Nat.lt_of_lt_of_le (h.far g o e).2.2 ho.size⟩⟩
theorem mid3 (h : Lay wr w5 B R r' p' c' n') : TuMid wr B R r' C (.pointer (some ⟨w5.heap.size, 0, none⟩)) (.int .i64 C) ((((w5.alloc (.cells #[.slice none 0 0, .int .i64 0, .int .i64 0] 27 (0, 0))).setCell ⟨w5.heap.size, 0, none⟩ (.slice p' n' c')).setCell ⟨w5.heap.size, 1, none⟩ (.int .i64 r'.most)).setCell ⟨w5.heap.size, 2, none⟩ (.int .i64 r'.bad)) := by
  have hba := (Below.refl w5.heap.size w5).alloc (Nat.le_refl _) (.cells #[.slice none 0 0, .int .i64 0, .int .i64 0] 27 (0, 0))
  have ho := s3_out (gx := w5.heap.size) (a := .slice p' n' c') (b := .int .i64 r'.most) (d := .int .i64 r'.bad) (w5.alloc (.cells #[.slice none 0 0, .int .i64 0, .int .i64 0] 27 (0, 0)))
  exact ⟨_, p', c', n', rfl, rfl, file_box (at_new _ _), h.below.size, s3_below (h.below.trans (hba.mono h.below.size)) h.below.size, (h.fs.below hba).out ho (fun g o e e2 => by have := (h.far g o e).2.2; omega), h.len, fun g o e => ⟨(h.far g o e).1, (h.far g o e).2.1, by have h1 := (h.far g o e).2.2; have h2 := hba.size; have h3 := ho.size; omega⟩⟩
/-- .. the box is written -/
theorem TuAt.set (h : TuAt w wr B R r p c n) (hb : Below wr.heap.size wr wx) (hF : Fs wx p' c' r'.L) (hn : r'.L.length = n') (hf : ∀ g o, p' = some ⟨g, o, none⟩ → g ≠ B ∧ g ≠ R ∧ g < wx.heap.size) :
    TuAt w (((wx.setCell ⟨B, 0, none⟩ (.slice p' n' c')).setCell ⟨B, 1, none⟩ (.int .i64 r'.most)).setCell ⟨B, 2, none⟩ (.int .i64 r'.bad)) B R r' p' c' n' := by
  have hs := h.same hb
  have ho := s3_out (gx := B) (a := .slice p' n' c') (b := .int .i64 r'.most) (d := .int .i64 r'.bad) wx
  exact ⟨file_box hs.box, (ho.block R (at_lt hs.res) (fun e => h.ne e.symm)).trans hs.res, hF.out ho (fun g o e => (hf g o e).1), hn, s3_below hs.below h.hB, fun g o e => ⟨(hf g o e).1, (hf g o e).2.1, Nat.lt_of_lt_of_le (hf g o e).2.2 ho.size⟩, h.hB, h.hR, h.ne⟩
def TuPost (w : World) (T : St) (C : Int) (e : Ending) (w' : World) : Prop :=
  ∃ p' c' n', e = .returned (.tuple #[.agg #[.slice p' n' c', .int .i64 T.most, .int .i64 T.bad], .int .i64 C]) ∧ Fs w' p' c' T.L ∧ T.L.length = n' ∧ Below w.heap.size w w'
/-- .. and what is handed back -/
theorem TuAt.ends (h : TuAt w wr B R r p c n) : TuPost w r C (.returned (.tuple #[.agg #[.slice p n c, .int .i64 r.most, .int .i64 r.bad], .int .i64 C])) (((wr.setCell ⟨R, 0, none⟩ (.slice p n c)).setCell ⟨R, 1, none⟩ (.int .i64 r.most)).setCell ⟨R, 2, none⟩ (.int .i64 r.bad)) := by
  have ho := s3_out (gx := R) (a := .slice p n c) (b := .int .i64 r.most) (d := .int .i64 r.bad) wr
  exact ⟨p, c, n, rfl, h.fs.out ho (fun g o e => (h.far g o e).2.1), h.len, s3_below h.below h.hR⟩
theorem fwo_len (t : St) (a : Bs) : (fwo t.L a).length ≤ t.L.length := wo_len _ _
theorem rem_len (t : St) (a : Bs) : (remT t a).L.length ≤ t.L.length := by
  unfold remT
  split
  · split
    · exact fwo_len t a
    · exact Nat.le_refl _
  · unfold begT; split <;> exact Nat.le_refl _
theorem ren_len (t : St) (a d : Bs) : (renT t a d).L.length ≤ t.L.length + 1 := by
  unfold renT
  split
  · split
    · refine Nat.le_trans (pt_len _ _) ?_
      have := fwo_len t a
      omega
    · omega
  · unfold begT; split <;> exact Nat.le_succ _
end
set_option maxRecDepth 100000 in
set_option maxHeartbeats 32000000 in
theorem rturn_calls (t : St) (hok : Ok t) (p : Option Addr) (c n : Nat) (hn : t.L.length = n) (hN : n ≤ 100) (a : Bs) (ha : a.length ≤ 1000) (k : Int) (w : World) (h : Fs w p c t.L) (hp : ∀ g o, p = some ⟨g, o, none⟩ → g < w.heap.size) :
    Calls Tryz.prog 10 #[.agg #[.slice p n c, .int .i64 t.most, .int .i64 t.bad], .string ⟨a.toArray⟩, .int .i64 k] w (TuPost w (trT t (ser a (held k))) (trC t (ser a (held k)))) := by
  have hk := held_bd k
  have HH := Lib.hid fun W => rheld_calls k W
  generalize held k = K at *
  obtain ⟨hK1, hK2⟩ := hk
  obtain ⟨m, rfl⟩ : ∃ m, K = m + 1 := ⟨K - 1, by omega⟩
  have HS : Hid (ser a (m + 1) = nm a (m : Nat) :: ser a m) := Lib.hid rfl
  have hb1 := (Below.refl w.heap.size w).alloc (Nat.le_refl _) (.cells #[.slice p n c, .int .i64 t.most, .int .i64 t.bad] 27 (0, 0))
  have hb2 := hb1.alloc (by simp) (.cells #[.slice none 0 0, .int .i64 0, .int .i64 0] 27 (0, 0))
  have T0 := Lib.hid (show TuAt w ((w.alloc (.cells #[.slice p n c, .int .i64 t.most, .int .i64 t.bad] 27 (0, 0))).alloc (.cells #[.slice none 0 0, .int .i64 0, .int .i64 0] 27 (0, 0))) w.heap.size (w.heap.size + 1) t p c n from
    ⟨at_old _ _ (at_new _ _), at_newk _ _ (by simp), h.below hb2, hn, hb2, fun g o e => by have := hp g o e; simp; omega, Nat.le_refl _, by omega, by omega⟩)
  have HOK := Lib.hid hok
  obtain ⟨T', hT'⟩ : ∃ T', trT t (ser a (m + 1)) = T' := ⟨_, rfl⟩
  obtain ⟨C', hC'⟩ : ∃ C', trC t (ser a (m + 1)) = C' := ⟨_, rfl⟩
  rw [hT', hC']
  have HQ : Hid (trT t (nm a (m : Nat) :: ser a m) = T' ∧ trC t (nm a (m : Nat) :: ser a m) = C') := Lib.hid ⟨hT', hC'⟩
  clear hT' hC'
  clear hb1 hb2 h hp hok hn
  go_enter Tryz.func10, Tryz.ntmps10
  go_wp2_with fail
  refine (HH.out _).mono ?_
  rintro e w' ⟨rfl, rfl⟩
  have qm : ((m + 1 : Nat) : Int) - 1 = (m : Int) := by omega
  go_upto_region 2 with fail
  generalize (w.alloc (.cells #[.slice p n c, .int .i64 t.most, .int .i64 t.bad] 27 (0, 0))).alloc (.cells #[.slice none 0 0, .int .i64 0, .int .i64 0] 27 (0, 0)) = W0 at *
  generalize w.heap.size + 1 = R at *
  generalize w.heap.size = B at *
  have HN1 := Lib.hid fun W => rname_calls a (m : Nat) (by omega) (by omega) (by omega) W
  have hszm := nm_len a (i := (m : Int)) (by omega) (by omega)
  obtain ⟨hs, hhs⟩ : ∃ hs, (flk t.L (nm a (m : Nat))).isSome = hs := ⟨_, rfl⟩
  have HG : Hid (∀ W, Below W0.heap.size W0 W → Calls Tryz.prog 32 #[.agg #[.slice p n c, .int .i64 t.most, .int .i64 t.bad], .string ⟨(nm a (m : Nat)).toArray⟩] W fun e w' => ∃ nmx y, ∃ S : Nat, e = .returned (.tuple #[.agg #[.string nmx, .string y, .int .i64 S], .bool hs]) ∧ Below W.heap.size W w') := Lib.hid fun W hb =>
    (get_calls t.L p c n T0.out.len t.most t.bad ⟨(nm a (m : Nat)).toArray⟩ W (T0.out.fs.below hb) HOK.out.rise).mono fun e w' hp => by
      obtain ⟨nmx, y, S, h1, h2, _, h4⟩ := get_open hp
      exact ⟨nmx, y, S, by rw [h1, ← hhs], h4⟩
  have HHS := Lib.hid hhs
  obtain ⟨rm, hrm⟩ : ∃ rm, t.most = rm := ⟨_, rfl⟩
  obtain ⟨rb, hrb⟩ : ∃ rb, t.bad = rb := ⟨_, rfl⟩
  have hx := T0.out.box
  have hlt0 := at_lt hx
  have a0 := at_cell (at_old W0 (.cells #[.string ⟨#[]⟩, .string ⟨#[]⟩, .int .i64 0] 79 (0, 0)) hx) 0
  have a1 := at_cell (at_old W0 (.cells #[.string ⟨#[]⟩, .string ⟨#[]⟩, .int .i64 0] 79 (0, 0)) hx) 1
  have a2 := at_cell (at_old W0 (.cells #[.string ⟨#[]⟩, .string ⟨#[]⟩, .int .i64 0] 79 (0, 0)) hx) 2
  have b0 := at_cell (at_old W0.drew (.cells #[.string ⟨#[]⟩, .string ⟨#[]⟩, .int .i64 0] 79 (0, 0)) hx) 0
  have b1 := at_cell (at_old W0.drew (.cells #[.string ⟨#[]⟩, .string ⟨#[]⟩, .int .i64 0] 79 (0, 0)) hx) 1
  have b2 := at_cell (at_old W0.drew (.cells #[.string ⟨#[]⟩, .string ⟨#[]⟩, .int .i64 0] 79 (0, 0)) hx) 2
  have c0 := at_cell hx 0
  have c1 := at_cell hx 1
  have c2 := at_cell hx 2
  have bd : Below W0.heap.size W0 W0 := Below.refl _ _
  rw [hrm, hrb] at HG
  rw [hrm] at a1 b1 c1
  rw [hrb] at a2 b2 c2
  have HRM := Lib.hid hrm
  have HRB := Lib.hid hrb
  clear hhs hrm hrb
  go_cut [9, 10] (fun _ v wx => v = .bool hs ∧ Below W0.heap.size W0 wx)
  case first =>
    rw [HRM.out, HRB.out] at hx
    have HS3 := Lib.hid (fun W (hb : Below W0.heap.size W0 W) => hold3 hx hb)
    go_region_held3 (fun w' => Below W0.heap.size W0 w' ∧ w'.cell? ⟨B, 0, none⟩ = some (.slice p n c) ∧ w'.cell? ⟨B, 1, none⟩ = some (.int .i64 rm) ∧ w'.cell? ⟨B, 2, none⟩ = some (.int .i64 rb))
      (first
        | exact HS3.out _ (Below.refl _ _)
        | exact HS3.out _ (below_drew (Below.refl _ _))
        | exact HS3.out _ ((Below.refl _ _).alloc (Nat.le_refl _) _)
        | exact HS3.out _ ((below_drew (Below.refl _ _)).alloc (Nat.le_refl _) _)
        | exact HS3.out _ hb5
        | exact HS3.out _ (hb5.alloc hb5.size _)
        | exact HS3.out _ (s3_below hb5 (Nat.le_refl _))
        | exact HS3.out _ (s3_below (hb5.alloc hb5.size _) hb5.size))
       (first
      | (go_at_call 18; with_reducible refine (HN1.out _).mono ?_; rintro e w' ⟨rfl, rfl⟩)
      | (go_at_call 32; refine (HG.out _ (by first | exact bd | exact below_drew bd | exact bd.drew | exact bd.alloc (Nat.le_refl _) _ | exact (below_drew bd).alloc (Nat.le_refl _) _)).mono ?_; rintro e w5 ⟨nmx, y, S, rfl, hb5⟩; (try (have kx := (hb5.block W0.heap.size (by simp)).trans (at_new _ _); have z0 := at_cell kx 0; have z1 := at_cell kx 1; have z2 := at_cell kx 2; have f0 := at_frozen kx 0; have f1 := at_frozen kx 1; have f2 := at_frozen kx 2; have zl := at_lt kx)); replace hb5 : Below W0.heap.size W0 w5 := by first | exact (bd.alloc (Nat.le_refl _) _).trans (hb5.mono (by simp)) | exact ((below_drew bd).alloc (Nat.le_refl _) _).trans (hb5.mono (by simp)) | exact hb5 | exact bd.trans hb5 | exact (below_drew bd).trans hb5 | exact bd.drew.trans hb5))
    all_goals
      have B5 := hb5
      go_wp2_with fail
      go_meet
      first | exact ⟨rfl, B5.alloc B5.size _⟩ | exact ⟨rfl, s3_below B5 (Nat.le_refl _)⟩ | exact ⟨rfl, s3_below (B5.alloc B5.size _) B5.size⟩
  case rest =>
    obtain ⟨rfl, hbx⟩ := hcut
    rename World => W1
    have T1 := Lib.hid (T0.out.same hbx)
    clear hbx HG T0
    clear hx hlt0 a0 a1 a2 b0 b1 b2 c0 c1 c2 bd
    go_upto_if 29 with fail
    go_cut [11, 12] (fun _ _ wx => ∃ (r : St) (p : Option Addr) (c n : Nat), n ≤ 101 ∧ Hid (TuAt w wx B R r p c n) ∧ Hid (Ok r) ∧ Hid (rnT r (nm a (m : Nat)) (ser a m) = T' ∧ rnC r (nm a (m : Nat)) (ser a m) = C'))
    case first =>
      cases hs with
      | false =>
        have HQ0 : Hid (rnT t (nm a (m : Nat)) (ser a m) = T' ∧ rnC t (nm a (m : Nat)) (ser a m) = C') := Lib.hid (by
          have h1 := tr_skip (r := ser a m) HHS.out
          exact ⟨h1.1.symm.trans HQ.out.1, h1.2.symm.trans HQ.out.2⟩)
        go_wp2_with fail
        go_meet
        exact ⟨t, p, c, n, by omega, T1, HOK, HQ0⟩
      | true =>
        go_upto_region 4 with fail
        have HR : Hid (∀ W, Below W1.heap.size W1 W → Calls Tryz.prog 33 #[.agg #[.slice p n c, .int .i64 rm, .int .i64 rb], .string ⟨(nm a (m : Nat)).toArray⟩] W fun e w' => ∃ p5 c5 n5, e = .returned (.tuple #[.agg #[.slice p5 n5 c5, .int .i64 (remT t (nm a (m : Nat))).most, .int .i64 (remT t (nm a (m : Nat))).bad], .int .i64 (remC t (nm a (m : Nat)))]) ∧ Fs w' p5 c5 (remT t (nm a (m : Nat))).L ∧ (remT t (nm a (m : Nat))).L.length = n5 ∧ Below W.heap.size W w' ∧ ∀ g o, p5 = some ⟨g, o, none⟩ → g ≠ B ∧ g ≠ R ∧ g < w'.heap.size ∧ (g < W1.heap.size ∨ W.heap.size ≤ g)) := Lib.hid fun W hb => by
          rw [← HRM.out, ← HRB.out]
          exact (rrem_calls t p c n T1.out.len ⟨(nm a (m : Nat)).toArray⟩ (by rw [size_of]; omega) (by have := HOK.out.bad; omega) W (T1.out.fs.below hb) HOK.out.rise (by omega)).mono fun e w' hp => T1.out.post hb hp
        have HO2 := Lib.hid (HOK.out.rem _ : Ok (remT t (nm a (m : Nat))))
        have HL2 := Lib.hid (by have := rem_len t (nm a (m : Nat)); have := T1.out.len; omega : (remT t (nm a (m : Nat))).L.length ≤ n + 1)
        obtain ⟨r2, hr2⟩ : ∃ r2, remT t (nm a (m : Nat)) = r2 := ⟨_, rfl⟩
        obtain ⟨C, hC⟩ : ∃ C, remC t (nm a (m : Nat)) = C := ⟨_, rfl⟩
        rw [hr2, hC] at HR
        rw [hr2] at HO2 HL2
        have HR2 := Lib.hid hr2
        have HC2 := Lib.hid hC
        have hx := T1.out.box
        have hlt0 := at_lt hx
        have a0 := at_cell (at_old W1 (.cells #[.slice none 0 0, .int .i64 0, .int .i64 0] 27 (0, 0)) hx) 0
        have a1 := at_cell (at_old W1 (.cells #[.slice none 0 0, .int .i64 0, .int .i64 0] 27 (0, 0)) hx) 1
        have a2 := at_cell (at_old W1 (.cells #[.slice none 0 0, .int .i64 0, .int .i64 0] 27 (0, 0)) hx) 2
        have b0 := at_cell (at_old W1.drew (.cells #[.slice none 0 0, .int .i64 0, .int .i64 0] 27 (0, 0)) hx) 0
        have b1 := at_cell (at_old W1.drew (.cells #[.slice none 0 0, .int .i64 0, .int .i64 0] 27 (0, 0)) hx) 1
        have b2 := at_cell (at_old W1.drew (.cells #[.slice none 0 0, .int .i64 0, .int .i64 0] 27 (0, 0)) hx) 2
        have c0 := at_cell hx 0
        have c1 := at_cell hx 1
        have c2 := at_cell hx 2
        have bd : Below W1.heap.size W1 W1 := Below.refl _ _
        rw [HRM.out] at a1 b1 c1
        rw [HRB.out] at a2 b2 c2
        obtain ⟨sm, hsm⟩ : ∃ sm, r2.most = sm := ⟨_, rfl⟩
        obtain ⟨sb, hsb⟩ : ∃ sb, r2.bad = sb := ⟨_, rfl⟩
        rw [hsm, hsb] at HR
        have HSM := Lib.hid hsm
        have HSB := Lib.hid hsb
        clear hr2 hC hsm hsb
        go_cut [11, 12] (fun v1 v2 wx => TuMid W1 B R r2 C v1 v2 wx)
        case first =>
          rw [HRM.out, HRB.out] at hx
          have HS3 := Lib.hid (fun W (hb : Below W1.heap.size W1 W) => hold3 hx hb)
          go_region_held3 (fun w' => Below W1.heap.size W1 w' ∧ w'.cell? ⟨B, 0, none⟩ = some (.slice p n c) ∧ w'.cell? ⟨B, 1, none⟩ = some (.int .i64 rm) ∧ w'.cell? ⟨B, 2, none⟩ = some (.int .i64 rb))
            (first
              | exact HS3.out _ (Below.refl _ _)
              | exact HS3.out _ (below_drew (Below.refl _ _))
              | exact HS3.out _ ((Below.refl _ _).alloc (Nat.le_refl _) _)
              | exact HS3.out _ ((below_drew (Below.refl _ _)).alloc (Nat.le_refl _) _)
              | exact HS3.out _ hb5
              | exact HS3.out _ (hb5.alloc hb5.size _)
              | exact HS3.out _ (s3_below hb5 (Nat.le_refl _))
              | exact HS3.out _ (s3_below (hb5.alloc hb5.size _) hb5.size))
             (first
            | (go_at_call 18; with_reducible refine (HN1.out _).mono ?_; rintro e w' ⟨rfl, rfl⟩)
            | (go_at_call 33; refine (HR.out _ (by first | exact bd | exact below_drew bd | exact bd.drew | exact bd.alloc (Nat.le_refl _) _ | exact (below_drew bd).alloc (Nat.le_refl _) _)).mono ?_; rintro e w5 ⟨p5, c5, n5, rfl, h5F, h5n, hb5, h5f⟩; (try (have kx := (hb5.block W1.heap.size (by simp)).trans (at_new _ _); have z0 := at_cell kx 0; have z1 := at_cell kx 1; have z2 := at_cell kx 2; have f0 := at_frozen kx 0; have f1 := at_frozen kx 1; have f2 := at_frozen kx 2; have zl := at_lt kx)); replace hb5 : Below W1.heap.size W1 w5 := by first | exact (bd.alloc (Nat.le_refl _) _).trans (hb5.mono (by simp)) | exact ((below_drew bd).alloc (Nat.le_refl _) _).trans (hb5.mono (by simp)) | exact hb5 | exact bd.trans hb5 | exact (below_drew bd).trans hb5 | exact bd.drew.trans hb5))
          all_goals
            have B5 := hb5
            try clear hw1
            have LY : Lay W1 w5 B R r2 p5 c5 n5 := ⟨B5, h5F, h5n, fun g o e => ⟨(h5f g o e).1, (h5f g o e).2.1, (h5f g o e).2.2.1⟩⟩
            go_wp2_with fail
            go_meet
            rw [← HSM.out, ← HSB.out]
            first | exact mid1 LY | exact mid2 LY kx (fun g o e => by have h6 := (h5f g o e).2.2.2; simp at h6; omega) | exact mid3 LY
        case rest =>
          obtain ⟨gx, p2, c2', n2, rfl, rfl, hbx, hgx, hbl, hF2, hn2, hf2⟩ := hcut
          rename World => Wx
          clear hx hlt0 a0 a1 a2 b0 b1 b2 c0 c1 c2 bd
          have X2 := Lib.hid (T1.out.same hbl)
          have T2 := Lib.hid (T1.out.set hbl hF2 hn2 hf2)
          have y0 := at_cell hbx 0
          have y1 := at_cell hbx 1
          have y2 := at_cell hbx 2
          have x0 := at_cell X2.out.box 0
          have x1 := at_cell X2.out.box 1
          have x2 := at_cell X2.out.box 2
          have g0 := at_frozen X2.out.box 0
          have g1 := at_frozen X2.out.box 1
          have g2 := at_frozen X2.out.box 2
          have gl := at_lt X2.out.box
          have hn2b : n2 ≤ n + 1 := by rw [← hn2]; exact HL2.out
          rw [HSM.out, HSB.out] at T2
          rw [HSM.out] at y1
          rw [HSB.out] at y2
          have K2 := Lib.hid (show ((Wx.setCell ⟨B, 0, none⟩ (.slice p2 n2 c2')).setCell ⟨B, 1, none⟩ (.int .i64 sm)).setCell ⟨B, 2, none⟩ (.int .i64 sb) = ((Wx.setCell ⟨B, 0, none⟩ (.slice p2 n2 c2')).setCell ⟨B, 1, none⟩ (.int .i64 sm)).setCell ⟨B, 2, none⟩ (.int .i64 sb) from rfl)
          clear hbx hbl hF2 hn2 hf2 HR T1
          go_upto_region 6 with fail
          generalize ((Wx.setCell ⟨B, 0, none⟩ (.slice p2 n2 c2')).setCell ⟨B, 1, none⟩ (.int .i64 sm)).setCell ⟨B, 2, none⟩ (.int .i64 sb) = W3 at *
          clear y0 y1 y2 x0 x1 x2 g0 g1 g2 gl X2 K2
          by_cases hC0 : C = 0
          · subst hC0
            have HQ0 : Hid (rnT r2 (nm a (m : Nat)) (ser a m) = T' ∧ rnC r2 (nm a (m : Nat)) (ser a m) = C') := Lib.hid (by
              have h1 := tr_go (r := ser a m) HHS.out HC2.out
              rw [HR2.out] at h1
              exact ⟨h1.1.symm.trans HQ.out.1, h1.2.symm.trans HQ.out.2⟩)
            have b0 : ((0 : Int) != 0) = false := rfl
            go_wp2_with fail
            go_meet
            exact ⟨r2, p2, c2', n2, by omega, T2, HO2, HQ0⟩
          · have bC : (C != 0) = true := by simpa using hC0
            have HE : Hid (T' = r2 ∧ C' = C) := Lib.hid (by
              have h9 : ¬ C = 0 := hC0
              have h1 := tr_end (r := ser a m) HHS.out (by rw [HC2.out]; exact h9)
              rw [HR2.out, HC2.out] at h1
              exact ⟨HQ.out.1.symm.trans h1.1, HQ.out.2.symm.trans h1.2⟩)
            clear hC0
            have e0 := at_cell T2.out.box 0
            have e1 := at_cell T2.out.box 1
            have e2 := at_cell T2.out.box 2
            have r0 := at_cell T2.out.res 0
            have r1 := at_cell T2.out.res 1
            have r2x := at_cell T2.out.res 2
            have i0 := at_frozen T2.out.res 0
            have i1 := at_frozen T2.out.res 1
            have i2 := at_frozen T2.out.res 2
            have il := at_lt T2.out.res
            rw [HSM.out] at e1
            rw [HSB.out] at e2
            go_wp2_with fail
            have hR := file_box (a := .slice p2 n2 c2') (b := .int .i64 sm) (c := .int .i64 sb) T2.out.res
            have HP := Lib.hid (T2.out.ends (C := C))
            rw [HSM.out, HSB.out] at HP
            generalize ((W3.setCell ⟨R, 0, none⟩ (.slice p2 n2 c2')).setCell ⟨R, 1, none⟩ (.int .i64 sm)).setCell ⟨R, 2, none⟩ (.int .i64 sb) = WE at *
            have h0 := at_cell hR 0
            have h1 := at_cell hR 1
            have h2 := at_cell hR 2
            refine bodyPost_ret (v := .tuple #[.agg #[.slice p2 n2 c2', .int .i64 sm, .int .i64 sb], .int .i64 C]) ?_ rfl ?_
            · simp [results, Tryz.results10, go_sem, h0, h1, h2]
            · rw [HE.out.1, HE.out.2]; exact HP.out
    case rest =>
      clear HQ HOK T1 HHS HRM HRB HN1
      obtain ⟨r0, p9, c9, n9, hn9, T9, HO9, HQ9⟩ := hcut
      rename World => W9
      have q0 : ((m : Nat) : Int) - 1 = (m : Int) - 1 := rfl
      go_wp2_with fail
      go_loopw [13] (fun iv wr => ∃ (j : Nat) (r : St) (p : Option Addr) (c n : Nat), iv = .int .i64 ((j : Int) - 1) ∧ j ≤ m ∧ n + j ≤ 200 ∧ Hid (TuAt w wr B R r p c n) ∧ Hid (Ok r) ∧ Hid (rnT r (nm a (j : Nat)) (ser a j) = T' ∧ rnC r (nm a (j : Nat)) (ser a j) = C')) (fun iv _ => (intOf iv + 1).toNat)
      case atStart => exact ⟨m, r0, p9, c9, n9, rfl, Nat.le_refl _, by omega, T9, HO9, HQ9⟩
      case round =>
        clear T9
        obtain ⟨j, r, p, c, n, rfl, hjm, hnj, HT, HOK, HQ⟩ := hrel
        rename World => wr
        rcases Nat.eq_zero_or_pos j with rfl | hj0
        · have q1 : ¬ (0 : Int) ≤ ((0 : Nat) : Int) - 1 := by omega
          obtain ⟨sm, hsm⟩ : ∃ sm, r.most = sm := ⟨_, rfl⟩
          obtain ⟨sb, hsb⟩ : ∃ sb, r.bad = sb := ⟨_, rfl⟩
          have HSM := Lib.hid hsm
          have HSB := Lib.hid hsb
          have HE : Hid (T' = r ∧ C' = 0) := Lib.hid ⟨HQ.out.1.symm, HQ.out.2.symm⟩
          have e0 := at_cell HT.out.box 0
          have e1 := at_cell HT.out.box 1
          have e2 := at_cell HT.out.box 2
          have r0 := at_cell HT.out.res 0
          have r1 := at_cell HT.out.res 1
          have r2x := at_cell HT.out.res 2
          have i0 := at_frozen HT.out.res 0
          have i1 := at_frozen HT.out.res 1
          have i2 := at_frozen HT.out.res 2
          have il := at_lt HT.out.res
          rw [hsm] at e1
          rw [hsb] at e2
          clear hsm hsb
          go_wp2_with fail
          have hR := file_box (a := .slice p n c) (b := .int .i64 sm) (c := .int .i64 sb) HT.out.res
          have HP := Lib.hid (HT.out.ends (C := 0))
          rw [HSM.out, HSB.out] at HP
          generalize ((wr.setCell ⟨R, 0, none⟩ (.slice p n c)).setCell ⟨R, 1, none⟩ (.int .i64 sm)).setCell ⟨R, 2, none⟩ (.int .i64 sb) = WE at *
          have h0 := at_cell hR 0
          have h1 := at_cell hR 1
          have h2 := at_cell hR 2
          refine bodyPost_ret (v := .tuple #[.agg #[.slice p n c, .int .i64 sm, .int .i64 sb], .int .i64 0]) ?_ rfl ?_
          · simp [results, Tryz.results10, go_sem, h0, h1, h2]
          · rw [HE.out.1, HE.out.2]; exact HP.out
        · obtain ⟨i, rfl⟩ : ∃ i, j = i + 1 := ⟨j - 1, by omega⟩
          rw [show ((i + 1 : Nat) : Int) - 1 = (i : Int) by omega]
          have q1 : (0 : Int) ≤ (i : Int) := by omega
          have q2 : (i : Int) ≤ 100 := by omega
          have HN1 := Lib.hid fun W => rname_calls a (i : Nat) (by omega) (by omega) (by omega) W
          have HN2 := Lib.hid fun W => rname_calls a ((i + 1 : Nat) : Int) (by omega) (by omega) (by omega) W
          rw [show ((i + 1 : Nat) : Int) = (i : Int) + 1 by omega] at HN2
          have hes : ser a (i + 1) = nm a (i : Nat) :: ser a i := rfl
          rw [hes, show ((i + 1 : Nat) : Int) = (i : Int) + 1 by omega] at HQ
          have hsz1 := nm_len a (i := (i : Int)) (by omega) (by omega)
          have hsz2 := nm_len a (i := (i : Int) + 1) (by omega) (by omega)
          clear hes
          go_upto_region 11 with fail
          obtain ⟨hs, hhs⟩ : ∃ hs, (flk r.L (nm a (i : Nat))).isSome = hs := ⟨_, rfl⟩
          have HG : Hid (∀ W, Below wr.heap.size wr W → Calls Tryz.prog 32 #[.agg #[.slice p n c, .int .i64 r.most, .int .i64 r.bad], .string ⟨(nm a (i : Nat)).toArray⟩] W fun e w' => ∃ nmx y, ∃ S : Nat, e = .returned (.tuple #[.agg #[.string nmx, .string y, .int .i64 S], .bool hs]) ∧ Below W.heap.size W w') := Lib.hid fun W hb =>
            (get_calls r.L p c n HT.out.len r.most r.bad ⟨(nm a (i : Nat)).toArray⟩ W (HT.out.fs.below hb) HOK.out.rise).mono fun e w' hp => by
              obtain ⟨nmx, y, S, h1, h2, _, h4⟩ := get_open hp
              exact ⟨nmx, y, S, by rw [h1, ← hhs], h4⟩
          have HHS := Lib.hid hhs
          obtain ⟨rm, hrm⟩ : ∃ rm, r.most = rm := ⟨_, rfl⟩
          obtain ⟨rb, hrb⟩ : ∃ rb, r.bad = rb := ⟨_, rfl⟩
          have hx := HT.out.box
          have hlt0 := at_lt hx
          have a0 := at_cell (at_old wr (.cells #[.string ⟨#[]⟩, .string ⟨#[]⟩, .int .i64 0] 79 (0, 0)) hx) 0
          have a1 := at_cell (at_old wr (.cells #[.string ⟨#[]⟩, .string ⟨#[]⟩, .int .i64 0] 79 (0, 0)) hx) 1
          have a2 := at_cell (at_old wr (.cells #[.string ⟨#[]⟩, .string ⟨#[]⟩, .int .i64 0] 79 (0, 0)) hx) 2
          have b0 := at_cell (at_old wr.drew (.cells #[.string ⟨#[]⟩, .string ⟨#[]⟩, .int .i64 0] 79 (0, 0)) hx) 0
          have b1 := at_cell (at_old wr.drew (.cells #[.string ⟨#[]⟩, .string ⟨#[]⟩, .int .i64 0] 79 (0, 0)) hx) 1
          have b2 := at_cell (at_old wr.drew (.cells #[.string ⟨#[]⟩, .string ⟨#[]⟩, .int .i64 0] 79 (0, 0)) hx) 2
          have c0 := at_cell hx 0
          have c1 := at_cell hx 1
          have c2 := at_cell hx 2
          have bd : Below wr.heap.size wr wr := Below.refl _ _
          rw [hrm, hrb] at HG
          rw [hrm] at a1 b1 c1
          rw [hrb] at a2 b2 c2
          have HRM := Lib.hid hrm
          have HRB := Lib.hid hrb
          clear hhs hrm hrb
          go_cut [14, 15] from 45 to 75 (fun _ v wx => v = .bool hs ∧ Below wr.heap.size wr wx)
          case first =>
            rw [HRM.out, HRB.out] at hx
            have HS3 := Lib.hid (fun W (hb : Below wr.heap.size wr W) => hold3 hx hb)
            go_region_held3 (fun w' => Below wr.heap.size wr w' ∧ w'.cell? ⟨B, 0, none⟩ = some (.slice p n c) ∧ w'.cell? ⟨B, 1, none⟩ = some (.int .i64 rm) ∧ w'.cell? ⟨B, 2, none⟩ = some (.int .i64 rb))
              (first
                | exact HS3.out _ (Below.refl _ _)
                | exact HS3.out _ (below_drew (Below.refl _ _))
                | exact HS3.out _ ((Below.refl _ _).alloc (Nat.le_refl _) _)
                | exact HS3.out _ ((below_drew (Below.refl _ _)).alloc (Nat.le_refl _) _)
                | exact HS3.out _ hb5
                | exact HS3.out _ (hb5.alloc hb5.size _)
                | exact HS3.out _ (s3_below hb5 (Nat.le_refl _))
                | exact HS3.out _ (s3_below (hb5.alloc hb5.size _) hb5.size))
               (first
              | (go_at_call 18; with_reducible refine (HN1.out _).mono ?_; rintro e w' ⟨rfl, rfl⟩)
              | (go_at_call 32; refine (HG.out _ (by first | exact bd | exact below_drew bd | exact bd.drew | exact bd.alloc (Nat.le_refl _) _ | exact (below_drew bd).alloc (Nat.le_refl _) _)).mono ?_; rintro e w5 ⟨nmx, y, S, rfl, hb5⟩; (try (have kx := (hb5.block wr.heap.size (by simp)).trans (at_new _ _); have z0 := at_cell kx 0; have z1 := at_cell kx 1; have z2 := at_cell kx 2; have f0 := at_frozen kx 0; have f1 := at_frozen kx 1; have f2 := at_frozen kx 2; have zl := at_lt kx)); replace hb5 : Below wr.heap.size wr w5 := by first | exact (bd.alloc (Nat.le_refl _) _).trans (hb5.mono (by simp)) | exact ((below_drew bd).alloc (Nat.le_refl _) _).trans (hb5.mono (by simp)) | exact hb5 | exact bd.trans hb5 | exact (below_drew bd).trans hb5 | exact bd.drew.trans hb5))
            all_goals
              have B5 := hb5
              go_wp2_with fail
              go_meet
              first | exact ⟨rfl, B5.alloc B5.size _⟩ | exact ⟨rfl, s3_below B5 (Nat.le_refl _)⟩ | exact ⟨rfl, s3_below (B5.alloc B5.size _) B5.size⟩
          case rest =>
            obtain ⟨rfl, hbx⟩ := hcut
            rename World => W1
            have T1 := Lib.hid (HT.out.same hbx)
            clear hbx HG HT
            clear hx hlt0 a0 a1 a2 b0 b1 b2 c0 c1 c2 bd
            cases hs with
            | false =>
              have HQ2 : Hid (rnT r (nm a (i : Nat)) (ser a i) = T' ∧ rnC r (nm a (i : Nat)) (ser a i) = C') := Lib.hid (by
                have h1 := rn_skip (p := nm a ((i : Int) + 1)) (r := ser a i) HHS.out
                exact ⟨h1.1.symm.trans HQ.out.1, h1.2.symm.trans HQ.out.2⟩)
              go_wp2_with fail
              go_roundw
              case rel => exact ⟨i, r, p, c, n, by go_num, by omega, by omega, T1, HOK, HQ2⟩
              case measure => first | (simp [intOf]; done) | (simp [intOf]; omega)
            | true =>
              go_upto_region 13 with fail
              have HR : Hid (∀ W, Below W1.heap.size W1 W → Calls Tryz.prog 34 #[.agg #[.slice p n c, .int .i64 rm, .int .i64 rb], .string ⟨(nm a (i : Nat)).toArray⟩, .string ⟨(nm a ((i : Int) + 1)).toArray⟩] W fun e w' => ∃ p5 c5 n5, e = .returned (.tuple #[.agg #[.slice p5 n5 c5, .int .i64 (renT r (nm a (i : Nat)) (nm a ((i : Int) + 1))).most, .int .i64 (renT r (nm a (i : Nat)) (nm a ((i : Int) + 1))).bad], .int .i64 (renC r (nm a (i : Nat)) (nm a ((i : Int) + 1)))]) ∧ Fs w' p5 c5 (renT r (nm a (i : Nat)) (nm a ((i : Int) + 1))).L ∧ (renT r (nm a (i : Nat)) (nm a ((i : Int) + 1))).L.length = n5 ∧ Below W.heap.size W w' ∧ ∀ g o, p5 = some ⟨g, o, none⟩ → g ≠ B ∧ g ≠ R ∧ g < w'.heap.size ∧ (g < W1.heap.size ∨ W.heap.size ≤ g)) := Lib.hid fun W hb => by
                rw [← HRM.out, ← HRB.out]
                exact (rren_calls r p c n T1.out.len ⟨(nm a (i : Nat)).toArray⟩ ⟨(nm a ((i : Int) + 1)).toArray⟩ (by rw [size_of]; omega) (by have := HOK.out.bad; omega) W (T1.out.fs.below hb) HOK.out.rise (by omega) (by have := (tot_top HOK.out).2; omega) (by rw [size_of]; omega)).mono fun e w' hp => T1.out.post hb hp
              have HO2 := Lib.hid (HOK.out.ren _ _ : Ok (renT r (nm a (i : Nat)) (nm a ((i : Int) + 1))))
              have HL2 := Lib.hid (by have := ren_len r (nm a (i : Nat)) (nm a ((i : Int) + 1)); have := T1.out.len; omega : (renT r (nm a (i : Nat)) (nm a ((i : Int) + 1))).L.length ≤ n + 1)
              obtain ⟨r2, hr2⟩ : ∃ r2, renT r (nm a (i : Nat)) (nm a ((i : Int) + 1)) = r2 := ⟨_, rfl⟩
              obtain ⟨C, hC⟩ : ∃ C, renC r (nm a (i : Nat)) (nm a ((i : Int) + 1)) = C := ⟨_, rfl⟩
              rw [hr2, hC] at HR
              rw [hr2] at HO2 HL2
              have HR2 := Lib.hid hr2
              have HC2 := Lib.hid hC
              have hx := T1.out.box
              have hlt0 := at_lt hx
              have a0 := at_cell (at_old W1 (.cells #[.slice none 0 0, .int .i64 0, .int .i64 0] 27 (0, 0)) hx) 0
              have a1 := at_cell (at_old W1 (.cells #[.slice none 0 0, .int .i64 0, .int .i64 0] 27 (0, 0)) hx) 1
              have a2 := at_cell (at_old W1 (.cells #[.slice none 0 0, .int .i64 0, .int .i64 0] 27 (0, 0)) hx) 2
              have b0 := at_cell (at_old W1.drew (.cells #[.slice none 0 0, .int .i64 0, .int .i64 0] 27 (0, 0)) hx) 0
              have b1 := at_cell (at_old W1.drew (.cells #[.slice none 0 0, .int .i64 0, .int .i64 0] 27 (0, 0)) hx) 1
              have b2 := at_cell (at_old W1.drew (.cells #[.slice none 0 0, .int .i64 0, .int .i64 0] 27 (0, 0)) hx) 2
              have c0 := at_cell hx 0
              have c1 := at_cell hx 1
              have c2 := at_cell hx 2
              have bd : Below W1.heap.size W1 W1 := Below.refl _ _
              rw [HRM.out] at a1 b1 c1
              rw [HRB.out] at a2 b2 c2
              obtain ⟨sm, hsm⟩ : ∃ sm, r2.most = sm := ⟨_, rfl⟩
              obtain ⟨sb, hsb⟩ : ∃ sb, r2.bad = sb := ⟨_, rfl⟩
              rw [hsm, hsb] at HR
              have HSM := Lib.hid hsm
              have HSB := Lib.hid hsb
              clear hr2 hC hsm hsb
              go_cut [16, 17] from 45 to 75 (fun v1 v2 wx => TuMid W1 B R r2 C v1 v2 wx)
              case first =>
                rw [HRM.out, HRB.out] at hx
                have HS3 := Lib.hid (fun W (hb : Below W1.heap.size W1 W) => hold3 hx hb)
                obtain ⟨i1, hi1⟩ : ∃ x : Int, (i : Int) + 1 = x := ⟨_, rfl⟩
                have hw1 : IntKind.i64.wrap i1 = i1 := by rw [← hi1]; exact IntWalk.i64_in _ (by omega)
                rw [hi1] at HN2 HR
                go_region_held3 (fun w' => Below W1.heap.size W1 w' ∧ w'.cell? ⟨B, 0, none⟩ = some (.slice p n c) ∧ w'.cell? ⟨B, 1, none⟩ = some (.int .i64 rm) ∧ w'.cell? ⟨B, 2, none⟩ = some (.int .i64 rb))
                  (first
                    | exact HS3.out _ (Below.refl _ _)
                    | exact HS3.out _ (below_drew (Below.refl _ _))
                    | exact HS3.out _ ((Below.refl _ _).alloc (Nat.le_refl _) _)
                    | exact HS3.out _ ((below_drew (Below.refl _ _)).alloc (Nat.le_refl _) _)
                    | exact HS3.out _ hb5
                    | exact HS3.out _ (hb5.alloc hb5.size _)
                    | exact HS3.out _ (s3_below hb5 (Nat.le_refl _))
                    | exact HS3.out _ (s3_below (hb5.alloc hb5.size _) hb5.size))
                   (first
                  | (go_at_call 18; with_reducible refine (HN1.out _).mono ?_; rintro e w' ⟨rfl, rfl⟩) | (go_at_call 18; with_reducible refine (HN2.out _).mono ?_; rintro e w' ⟨rfl, rfl⟩)
                  | (go_at_call 34; refine (HR.out _ (by first | exact bd | exact below_drew bd | exact bd.drew | exact bd.alloc (Nat.le_refl _) _ | exact (below_drew bd).alloc (Nat.le_refl _) _)).mono ?_; rintro e w5 ⟨p5, c5, n5, rfl, h5F, h5n, hb5, h5f⟩; (try (have kx := (hb5.block W1.heap.size (by simp)).trans (at_new _ _); have z0 := at_cell kx 0; have z1 := at_cell kx 1; have z2 := at_cell kx 2; have f0 := at_frozen kx 0; have f1 := at_frozen kx 1; have f2 := at_frozen kx 2; have zl := at_lt kx)); replace hb5 : Below W1.heap.size W1 w5 := by first | exact (bd.alloc (Nat.le_refl _) _).trans (hb5.mono (by simp)) | exact ((below_drew bd).alloc (Nat.le_refl _) _).trans (hb5.mono (by simp)) | exact hb5 | exact bd.trans hb5 | exact (below_drew bd).trans hb5 | exact bd.drew.trans hb5))
                all_goals
                  have B5 := hb5
                  try clear hw1
                  have LY : Lay W1 w5 B R r2 p5 c5 n5 := ⟨B5, h5F, h5n, fun g o e => ⟨(h5f g o e).1, (h5f g o e).2.1, (h5f g o e).2.2.1⟩⟩
                  go_wp2_with fail
                  go_meet
                  rw [← HSM.out, ← HSB.out]
                  first | exact mid1 LY | exact mid2 LY kx (fun g o e => by have h6 := (h5f g o e).2.2.2; simp at h6; omega) | exact mid3 LY
              case rest =>
                obtain ⟨gx, p2, c2', n2, rfl, rfl, hbx, hgx, hbl, hF2, hn2, hf2⟩ := hcut
                rename World => Wx
                clear hx hlt0 a0 a1 a2 b0 b1 b2 c0 c1 c2 bd
                have X2 := Lib.hid (T1.out.same hbl)
                have T2 := Lib.hid (T1.out.set hbl hF2 hn2 hf2)
                have y0 := at_cell hbx 0
                have y1 := at_cell hbx 1
                have y2 := at_cell hbx 2
                have x0 := at_cell X2.out.box 0
                have x1 := at_cell X2.out.box 1
                have x2 := at_cell X2.out.box 2
                have g0 := at_frozen X2.out.box 0
                have g1 := at_frozen X2.out.box 1
                have g2 := at_frozen X2.out.box 2
                have gl := at_lt X2.out.box
                have hn2b : n2 ≤ n + 1 := by rw [← hn2]; exact HL2.out
                rw [HSM.out, HSB.out] at T2
                rw [HSM.out] at y1
                rw [HSB.out] at y2
                have K2 := Lib.hid (show ((Wx.setCell ⟨B, 0, none⟩ (.slice p2 n2 c2')).setCell ⟨B, 1, none⟩ (.int .i64 sm)).setCell ⟨B, 2, none⟩ (.int .i64 sb) = ((Wx.setCell ⟨B, 0, none⟩ (.slice p2 n2 c2')).setCell ⟨B, 1, none⟩ (.int .i64 sm)).setCell ⟨B, 2, none⟩ (.int .i64 sb) from rfl)
                clear hbx hbl hF2 hn2 hf2 HR T1
                go_upto_region 15 with fail
                generalize ((Wx.setCell ⟨B, 0, none⟩ (.slice p2 n2 c2')).setCell ⟨B, 1, none⟩ (.int .i64 sm)).setCell ⟨B, 2, none⟩ (.int .i64 sb) = W3 at *
                clear y0 y1 y2 x0 x1 x2 g0 g1 g2 gl X2 K2
                by_cases hC0 : C = 0
                · subst hC0
                  have HQ2 : Hid (rnT r2 (nm a (i : Nat)) (ser a i) = T' ∧ rnC r2 (nm a (i : Nat)) (ser a i) = C') := Lib.hid (by
                    have h1 := rn_go (p := nm a ((i : Int) + 1)) (r := ser a i) HHS.out HC2.out
                    rw [HR2.out] at h1
                    exact ⟨h1.1.symm.trans HQ.out.1, h1.2.symm.trans HQ.out.2⟩)
                  have b0 : ((0 : Int) != 0) = false := rfl
                  go_wp2_with fail
                  go_roundw
                  case rel => exact ⟨i, r2, p2, c2', n2, by go_num, by omega, by omega, T2, HO2, HQ2⟩
                  case measure => first | (simp [intOf]; done) | (simp [intOf]; omega)
                · have bC : (C != 0) = true := by simpa using hC0
                  have HE : Hid (T' = r2 ∧ C' = C) := Lib.hid (by
                    have h9 : ¬ C = 0 := hC0
                    have h1 := rn_end (p := nm a ((i : Int) + 1)) (r := ser a i) HHS.out (by rw [HC2.out]; exact h9)
                    rw [HR2.out, HC2.out] at h1
                    exact ⟨HQ.out.1.symm.trans h1.1, HQ.out.2.symm.trans h1.2⟩)
                  clear hC0
                  have e0 := at_cell T2.out.box 0
                  have e1 := at_cell T2.out.box 1
                  have e2 := at_cell T2.out.box 2
                  have r0 := at_cell T2.out.res 0
                  have r1 := at_cell T2.out.res 1
                  have r2x := at_cell T2.out.res 2
                  have i0 := at_frozen T2.out.res 0
                  have i1 := at_frozen T2.out.res 1
                  have i2 := at_frozen T2.out.res 2
                  have il := at_lt T2.out.res
                  rw [HSM.out] at e1
                  rw [HSB.out] at e2
                  go_wp2_with fail
                  have hR := file_box (a := .slice p2 n2 c2') (b := .int .i64 sm) (c := .int .i64 sb) T2.out.res
                  have HP := Lib.hid (T2.out.ends (C := C))
                  rw [HSM.out, HSB.out] at HP
                  generalize ((W3.setCell ⟨R, 0, none⟩ (.slice p2 n2 c2')).setCell ⟨R, 1, none⟩ (.int .i64 sm)).setCell ⟨R, 2, none⟩ (.int .i64 sb) = WE at *
                  have h0 := at_cell hR 0
                  have h1 := at_cell hR 1
                  have h2 := at_cell hR 2
                  refine bodyPost_ret (v := .tuple #[.agg #[.slice p2 n2 c2', .int .i64 sm, .int .i64 sb], .int .i64 C]) ?_ rfl ?_
                  · simp [results, Tryz.results10, go_sem, h0, h1, h2]
                  · rw [HE.out.1, HE.out.2]; exact HP.out
end Go.Proofs.YtngangdjbbbbdaaGreatDoor.Gen
end

section
namespace Go.Proofs.YtngangdjbbbbdaaGreatDoor.Rst
open Go.RowKit Go.Proofs.YtngangdjbbbbdaaGreatDoor.Own Go.Proofs.YtngangdjbbbbdaaGreatDoor.Sto Go.Proofs.YtngangdjbbbbdaaGreatDoor.Gen Go.Proofs.YtngangdjbbbbdaaGreatDoor.Flt
open Go.Proofs.YtngangdjbbbbdaaGreatDoor.Rec (Itm Its chk bytesOf flat cv cv_len cv_app)
open Go.Proofs.YtngangdjbbbbdaaGreatDoor.Rw (str strs Row1 Texts)

theorem Beside.out {W W' : World} {bs bs' : Nat → Prop} {t : St} {p : Option Addr} {c n : Nat} (h : Beside W bs t p c n) (ho : Out bs W W') (hn : ∀ i, bs' i → bs i ∨ W.heap.size ≤ i) : Beside W' bs' t p c n := by
  refine ⟨h.fs.out ho (fun g o e => (h.far g o e).1), h.len, fun g o e => ⟨fun hb => ?_, Nat.lt_of_lt_of_le (h.far g o e).2 ho.size⟩⟩
  rcases hn _ hb with h1 | h1
  · exact (h.far g o e).1 h1
  · have := (h.far g o e).2; omega
theorem lg_read2 {w : World} {bs : Nat → Prop} {b : Nat} {t : St} (h : Sto w bs b t) {hs : Bool} (hf : (flk t.L lg).isSome = hs) : Calls Tryz.prog 5 #[pb b, .string ⟨#[108, 111, 103]⟩] w fun e w' => (∃ s, e = .returned (.tuple #[.string s, .bool hs])) ∧ Below w.heap.size w w' := by
  have := sto_read h ⟨#[108, 111, 103]⟩ (by decide)
  rw [show (⟨#[108, 111, 103]⟩ : ByteArray).data.toList = lg from rfl, hf] at this
  exact this.mono fun e w' h => ⟨⟨_, h.1⟩, h.2⟩
theorem text_at {W : World} {p : Option Addr} {c k : Nat} {L : List Bs} (h : Texts W p c L) (hk : k < L.length) : ∃ g o, p = some ⟨g, o, none⟩ ∧ W.cell? ⟨g, o + k, none⟩ = some (.string ⟨(L[k]).toArray⟩) := by
  rcases h.cells with h0 | ⟨g, o, e, hg, hc⟩
  · rw [h0] at hk; simp at hk
  · exact ⟨g, o, e, hc k hk⟩
set_option maxRecDepth 100000 in
set_option maxHeartbeats 64000000 in
theorem begins_walk (p0 : Option Addr) (c0 n0 : Nat) (f : Nat → Fi) (nb : Int) (fail : Bool) (xs : List Itm) (q0 : Option Addr) (cq nq : Nat) (hnq : nq = xs.length) (w : World) (hT : Tab w) (hF : FRow w p0 c0 n0 f) (hb : 0 ≤ nb ∧ nb ≤ 255) (hI : Its w xs q0 cq) :
    Calls Tryz.prog 3 #[.slice p0 n0 c0, .int .u8 nb, .bool fail, .slice q0 nq cq] w fun e w' => e = .returned (.bool true) ∧ Below w.heap.size w w' := by
  have HT := Lib.hid (fun W (hb : Below w.heap.size w W) => hT.below hb)
  have HM := Lib.hid (made_calls p0 c0 n0 f w hF)
  have HI := Lib.hid hI
  have HNQ := Lib.hid hnq
  have hqc := hI.cap
  have hqm := hI.max
  rw [← hnq] at hqc
  unfold maxLen at hqm
  clear hT hF hI hnq
  obtain ⟨K, hK⟩ : ∃ K : Nat, nb % 16 + 1 = (K : Int) := ⟨(nb % 16 + 1).toNat, by omega⟩
  have hK1 : 1 ≤ K ∧ K ≤ 16 := by omega
  have hh : Hid (held (K : Nat) = K) := Lib.hid (by unfold held; omega)
  obtain ⟨m, hmod⟩ : ∃ m : Int, nb % 16 = m := ⟨_, rfl⟩
  have hmK : m = (K : Int) - 1 := by omega
  have hw16 : IntKind.u8.wrap (nb.tmod 16) = (K : Int) - 1 := by
    rw [Int.tmod_eq_emod_of_nonneg hb.1, hmod, hmK]
    exact Int.emod_eq_of_lt (by omega) (by show (K : Int) - 1 < 256; omega)
  have hmod2 : nb.tmod 16 = (K : Int) - 1 := by rw [Int.tmod_eq_emod_of_nonneg hb.1]; omega
  obtain ⟨hK2, hK3⟩ := hK1
  clear hmod hK hmK hb
  go_enter Tryz.func3, Tryz.ntmps3
  go_wp2_with fail
  refine HM.out.mono ?_
  rintro e w1 ⟨bs, b, t, p1, c1, n1, rfl, hb1, s1, hm1, hg1, hq1⟩
  have hba := (Below.refl w1.heap.size w1).alloc (Nat.le_refl _) (.cells #[.slice p1 n1 c1, .int .i64 10000, .int .i64 0] 27 (0, 0))
  have W1 := Lib.hid (show Ws w (w1.alloc (.cells #[.slice p1 n1 c1, .int .i64 10000, .int .i64 0] 27 (0, 0))) bs b t from ⟨hb1.trans (hba.mono hb1.size), s1.below hba, hm1⟩)
  have X1 := Lib.hid (at_new w1 (.cells #[.slice p1 n1 c1, .int .i64 10000, .int .i64 0] 27 (0, 0)))
  have Q1 := Lib.hid (hq1.same hba)
  have F1 : Hid (¬ bs w1.heap.size) := Lib.hid fun h => by have := s1.all _ h; omega
  have HXF : Hid (∀ g o, p1 = some ⟨g, o, none⟩ → g ≠ w1.heap.size) := Lib.hid fun g o e => by have := (hq1.far g o e).2; omega
  have HXW : Hid (w.heap.size ≤ w1.heap.size) := Lib.hid hb1.size
  have hn21 : n1 ≤ 21 := by rw [← hq1.len]; exact hg1.len
  obtain ⟨tL, tm, tb⟩ := t
  have e1 : tm = 10000 := hg1.most
  have e2 : tb = 0 := hg1.bad
  subst e1 e2
  clear hb1 s1 hm1 hg1 hq1 hba HM
  obtain ⟨hs, hhs⟩ : ∃ hs, (flk tL lg).isSome = hs := ⟨_, rfl⟩
  have HHS := Lib.hid hhs
  clear hhs
  go_wp2_with fail
  generalize w1.alloc (.cells #[.slice p1 n1 c1, .int .i64 10000, .int .i64 0] 27 (0, 0)) = V1 at *
  generalize w1.heap.size = X at *
  refine (lg_read2 W1.out.sto HHS.out).mono ?_
  rintro e V2 ⟨⟨sx, rfl⟩, hb2⟩
  have W2 := Lib.hid (W1.out.same hb2)
  have X2 := Lib.hid ((hb2.block _ (at_lt X1.out)).trans X1.out)
  have Q2 := Lib.hid (Q1.out.same hb2)
  clear hb2 W1 X1 Q1
  cases fail with
  | true =>
    go_wp2_with fail
    refine (sto_fail W2.out.sto 1 (by omega)).mono ?_
    rintro e V3 ⟨rfl, hs3, ho3⟩
    have W3 := Lib.hid (W2.out.go hs3 ho3 (fun _ h => .inl h))
    have X3 := Lib.hid ((ho3.block _ (at_lt X2.out) F1.out).trans X2.out)
    have Q3 := Lib.hid (Beside.out Q2.out ho3 (fun _ h => .inl h))
    have d2 := at_cell X3.out 2
    have z2 := at_frozen X3.out 2
    have ho4 := (Out.refl (fun k => k = X) V3).setCell (p := ⟨X, 2, none⟩) (fun _ => rfl) (.int .i64 1)
    have X4 := Lib.hid (at_set X3.out 2 (.int .i64 1))
    have W4 := Lib.hid (show Ws w (V3.setCell ⟨X, 2, none⟩ (.int .i64 1)) bs b ⟨tL, 10000, 1⟩ from ⟨W3.out.below.setCell (p := ⟨X, 2, none⟩) HXW.out _, W3.out.sto.out ho4 (fun k hk e => F1.out (by rw [← e]; exact hk)), W3.out.mine⟩)
    have Q4 := Lib.hid (show Beside (V3.setCell ⟨X, 2, none⟩ (.int .i64 1)) bs ⟨tL, 10000, 1⟩ p1 c1 n1 from ⟨Q3.out.fs.out ho4 (fun g o e e2 => HXF.out g o e e2), Q3.out.len, fun g o e => ⟨(Q3.out.far g o e).1, Nat.lt_of_lt_of_le (Q3.out.far g o e).2 ho4.size⟩⟩)
    have F4 := F1
    clear hs3 ho3 ho4 W2 X2 Q2 W3 X3 Q3
    simp only [List.setIfInBounds_toArray, List.set_cons_succ, List.set_cons_zero] at X4
    cases hs with
    | false =>
      have HBG := Lib.hid (begin_none W4.out.sto lg (by decide) (K : Nat) HHS.out)
      clear X4 Q4
      go_wp2_with fail
      refine HBG.out.mono ?_
      rintro e V5 ⟨rfl, hb5⟩
      have B5 := Lib.hid (W4.out.below.trans (hb5.mono W4.out.below.size))
      clear hb5 HBG
      have HHD := Lib.hid fun W => rheld_calls (K : Nat) W
      rw [hh.out] at HHD
      go_wp2_with fail
      refine (HHD.out _).mono ?_
      rintro e w' ⟨rfl, rfl⟩
      go_wp2_with fail
      refine (works_walk _).mono ?_
      rintro e V6 ⟨rfl, hb6⟩
      have B6 := Lib.hid (B5.out.trans (hb6.mono B5.out.size))
      clear hb6
      go_wp2_with fail
      go_ret
      exact ⟨rfl, B6.out⟩
    | true =>
      have HBG := begin_some W4.out.sto lg (by decide) (K : Nat) HHS.out
      rw [hh.out] at HBG
      replace HBG := Lib.hid HBG
      have HOK := Lib.hid W4.out.sto.ok
      go_wp2_with fail
      refine HBG.out.mono ?_
      rintro e V5 ⟨ev, ek, bs5, rfl, hE, hek, hs5, ho5, hn5⟩
      have W5 := Lib.hid (W4.out.go hs5 ho5 hn5)
      have X5 := Lib.hid ((ho5.block _ (at_lt X4.out) F4.out).trans X4.out)
      have Q5 := Lib.hid (Beside.out Q4.out ho5 hn5)
      have E5 := Lib.hid hE
      obtain ⟨TT, hTT⟩ : ∃ TT, trT ⟨tL, 10000, 1⟩ (ser lg K) = TT := ⟨_, rfl⟩
      obtain ⟨CC, hCC⟩ : ∃ CC, trC ⟨tL, 10000, 1⟩ (ser lg K) = CC := ⟨_, rfl⟩
      rw [hTT] at W5
      rw [hCC] at E5
      have HTU := rturn_calls ⟨tL, 10000, 1⟩ HOK.out p1 c1 n1 Q5.out.len (by omega) lg (by decide) (K : Nat) V5 Q5.out.fs (fun g o e => (Q5.out.far g o e).2)
      rw [hh.out, hTT, hCC] at HTU
      replace HTU := Lib.hid HTU
      have x0 := at_cell X5.out 0
      have x1 := at_cell X5.out 1
      have x2 := at_cell X5.out 2
      clear hE hek hs5 ho5 hn5 HBG hTT hCC W4 X4 Q4
      go_wp2_with fail
      refine HTU.out.mono ?_
      rintro e V6 ⟨p6, c6, n6, rfl, hF6, hn6, hb6⟩
      obtain ⟨sm, hsm⟩ : ∃ sm, TT.most = sm := ⟨_, rfl⟩
      obtain ⟨sb, hsb⟩ : ∃ sb, TT.bad = sb := ⟨_, rfl⟩
      rw [hsm, hsb]
      have hba := hb6.alloc hb6.size (.cells #[.slice p6 n6 c6, .int .i64 sm, .int .i64 sb] 27 (0, 0))
      have W6 := Lib.hid (W5.out.same hba)
      have Y6 := Lib.hid (at_new V6 (.cells #[.slice p6 n6 c6, .int .i64 sm, .int .i64 sb] 27 (0, 0)))
      have F6 := Lib.hid (hF6.below ((Below.refl V6.heap.size V6).alloc (Nat.le_refl _) (.cells #[.slice p6 n6 c6, .int .i64 sm, .int .i64 sb] 27 (0, 0))))
      have E6 := Lib.hid (E5.out.below hba)
      have L6 := Lib.hid hn6
      have HOF := Lib.hid (of_told E6.out (HT.out _ W6.out.below))
      clear hba hF6 hb6 hn6 HTU hsm hsb W5 X5 Q5 E5 x0 x1 x2
      go_wp2_with fail
      generalize V6.alloc (.cells #[.slice p6 n6 c6, .int .i64 sm, .int .i64 sb] 27 (0, 0)) = Z6 at *
      generalize V6.heap.size = Y at *
      refine HOF.out.mono ?_
      rintro e V7 ⟨rfl, hb7⟩
      have W7 := Lib.hid (W6.out.same hb7)
      have Y7 := Lib.hid ((hb7.block _ (at_lt Y6.out)).trans Y6.out)
      have F7 := Lib.hid (F6.out.below hb7)
      clear hb7 W6 Y6 F6 E6 HOF
      have hce : (CC == CC) = true := by simp
      have hcn : (CC != CC) = false := by simp
      have HIq := Lib.hid (HI.out.kept W7.out.below)
      have HA1 := Lib.hid fun W (hb : Below V7.heap.size V7 W) => all_calls (W7.out.sto.below hb) lg (by decide) (K : Nat)
      have HA2 := Lib.hid fun W (hb : Below V7.heap.size V7 W) => rall_calls TT p6 c6 n6 L6.out sm sb lg (by decide) (K : Nat) W (F7.out.below hb) W7.out.sto.ok.rise
      rw [hh.out] at HA1 HA2
      have HLN : Hid (((fnd TT (ser lg K)).map Fl.bs).length ≤ 16) := Lib.hid (by
        have h1 := fnd_len TT (ser lg K)
        rw [ser_len] at h1
        rw [List.length_map]; omega)
      generalize (fnd TT (ser lg K)).map Fl.bs = L at *
      have HH : Hid (∀ W, Below V7.heap.size V7 W → Below V7.heap.size V7 W ∧ W.cell? ⟨Y, 0, none⟩ = some (.slice p6 n6 c6) ∧ W.cell? ⟨Y, 1, none⟩ = some (.int .i64 sm) ∧ W.cell? ⟨Y, 2, none⟩ = some (.int .i64 sb)) := Lib.hid fun W hb => by
        have h := (hb.block _ (at_lt Y7.out)).trans Y7.out
        exact ⟨hb, at_cell h 0, at_cell h 1, at_cell h 2⟩
      obtain ⟨-, y0, y1, y2⟩ := HH.out V7 (Below.refl _ _)
      rcases Nat.eq_zero_or_pos nq with rfl | hq0
      · have HLA := Lib.hid fun W (hb : Below V7.heap.size V7 W) => last_calls xs q0 cq 0 HNQ.out W (HIq.out.kept hb)
        rw [show lastAt xs = 0 by rw [last_nil HNQ.out.symm]; rfl] at HLA
        obtain ⟨la, hla⟩ : ∃ la : Int, la = 0 := ⟨0, rfl⟩
        rw [← hla] at HLA
        clear HIq HI
        go_upto_region 18 with fail
        go_cut [18, 19] (fun v1 v2 wx => ∃ pa ca pc cc na, v1 = .slice pa na ca ∧ v2 = .slice pc na cc ∧ na = L.length ∧ Hid (Texts wx pa ca L) ∧ Hid (Texts wx pc cc L) ∧ Hid (Below V7.heap.size V7 wx))
        case first =>
          go_region_held3 (fun w' => Below V7.heap.size V7 w' ∧ w'.cell? ⟨Y, 0, none⟩ = some (.slice p6 n6 c6) ∧ w'.cell? ⟨Y, 1, none⟩ = some (.int .i64 sm) ∧ w'.cell? ⟨Y, 2, none⟩ = some (.int .i64 sb))
            (first
              | exact HH.out _ (Below.refl _ _)
              | exact HH.out _ (Tl.bl_drew (Below.refl _ _))
              | exact HH.out _ bA
              | exact HH.out _ (Tl.bl_drew bA)
              | exact HH.out _ bC
              | exact HH.out _ (Tl.bl_drew bC))
            (first
              | (go_at_call 12; go_split_ands; refine (HA1.out _ (by assumption)).mono ?_; rintro e wA ⟨pa, ca, na, rfl, hna, tA, bA, -, -⟩; (try (have tC2 := tC.below bA)); replace bA := Below.trans (by assumption) (bA.mono (Below.size (by assumption))))
              | (go_at_call 13; go_split_ands; refine (HA2.out _ (by assumption)).mono ?_; rintro e wC ⟨pc, cc, nc, rfl, hnc, tC, bC⟩; (try (have tA2 := tA.below bC)); replace bC := Below.trans (by assumption) (bC.mono (Below.size (by assumption)))))
          all_goals
            go_wp2_with fail
            go_meet
            subst hna hnc
            first
              | exact ⟨pa, ca, pc, cc, _, rfl, rfl, rfl, Lib.hid tA2, Lib.hid tC, Lib.hid bC⟩
              | exact ⟨pa, ca, pc, cc, _, rfl, rfl, rfl, Lib.hid tA, Lib.hid tC2, Lib.hid bA⟩
        case rest =>
          obtain ⟨pa, ca, pc, cc, na, rfl, rfl, hna, TA, TC, BW⟩ := hcut
          rename World => W8
          have HNA := Lib.hid hna
          have hna16 : na ≤ 16 := by rw [hna]; exact HLN.out
          have hac : na ≤ ca ∧ ca ≤ 9223372036854775807 := by have h := TA.out.cap; unfold maxLen at h; omega
          have hcc : na ≤ cc ∧ cc ≤ 9223372036854775807 := by have h := TC.out.cap; unfold maxLen at h; omega
          clear hna HA1 HA2 y0 y1 y2 HH Y7 F7 L6
          go_wp2_with fail
          go_loopw [20] (fun i wr => ∃ k : Nat, k ≤ na ∧ i = .int .i64 k ∧ Hid (Below W8.heap.size W8 wr)) (fun i _ => na - (intOf i).toNat)
          case atStart => exact ⟨0, Nat.zero_le _, rfl, Lib.hid (Below.refl _ _)⟩
          case round =>
            obtain ⟨k, hk, rfl, HB⟩ := hrel
            rename World => wr
            rcases Nat.lt_or_eq_of_le hk with hlt | rfl
            · have hkl : k < L.length := by rw [← HNA.out]; exact hlt
              obtain ⟨g1, o1, rfl, c1'⟩ := text_at (TA.out.below HB.out) hkl
              obtain ⟨g2, o2, rfl, c2'⟩ := text_at (TC.out.below HB.out) hkl
              have q1 : (k : Int) < (na : Int) := by omega
              generalize L[k] = tx at c1' c2'
              clear hkl
              go_wp2_with fail
              go_quiet (fail)
              go_wp2_with fail
              go_roundw
              case rel => exact ⟨k + 1, by omega, by go_num, Lib.hid ⟨HB.out.os, HB.out.tape, HB.out.output, HB.out.size, HB.out.block⟩⟩
              case measure => simp [intOf]; omega
            · have B9 := Lib.hid (BW.out.trans (HB.out.mono BW.out.size))
              clear TA TC
              have HL9 := Lib.hid (HLA.out wr B9.out)
              go_wp2_with fail
              refine HL9.out.mono ?_
              rintro e w' ⟨rfl, rfl⟩
              try subst hla
              go_wp2_with fail
              refine (works_walk _).mono ?_
              rintro e V10 ⟨rfl, hb10⟩
              have B10 := Lib.hid (W7.out.below.trans ((B9.out.trans (hb10.mono B9.out.size)).mono W7.out.below.size))
              clear hb10
              go_wp2_with fail
              go_ret
              exact ⟨rfl, B10.out⟩
      · obtain ⟨mq, rfl⟩ : ∃ mq, nq = mq + 1 := ⟨nq - 1, by omega⟩
        have qm : ((mq + 1 : Nat) : Int) - 1 = (mq : Int) := by omega
        have qp : (0 : Int) < ((mq + 1 : Nat) : Int) := by omega
        have HLA := Lib.hid fun W (hb : Below V7.heap.size V7 W) => last_calls xs q0 cq (mq + 1) HNQ.out W (HIq.out.kept hb)
        obtain ⟨gq, oq, rfl, hgq, i0, i1, i2⟩ := its_at HIq.out (k := mq) (by rw [← HNQ.out]; omega)
        rw [show lastAt xs = (xs[mq]'(by rw [← HNQ.out]; omega)).a from lastAt_some HNQ.out.symm] at HLA
        generalize (xs[mq]'(by rw [← HNQ.out]; omega)) = xq at *
        generalize hla : xq.a = la at *
        clear i0 i2
        clear HIq HI
        go_upto_region 18 with fail
        go_cut [18, 19] (fun v1 v2 wx => ∃ pa ca pc cc na, v1 = .slice pa na ca ∧ v2 = .slice pc na cc ∧ na = L.length ∧ Hid (Texts wx pa ca L) ∧ Hid (Texts wx pc cc L) ∧ Hid (Below V7.heap.size V7 wx))
        case first =>
          go_region_held3 (fun w' => Below V7.heap.size V7 w' ∧ w'.cell? ⟨Y, 0, none⟩ = some (.slice p6 n6 c6) ∧ w'.cell? ⟨Y, 1, none⟩ = some (.int .i64 sm) ∧ w'.cell? ⟨Y, 2, none⟩ = some (.int .i64 sb))
            (first
              | exact HH.out _ (Below.refl _ _)
              | exact HH.out _ (Tl.bl_drew (Below.refl _ _))
              | exact HH.out _ bA
              | exact HH.out _ (Tl.bl_drew bA)
              | exact HH.out _ bC
              | exact HH.out _ (Tl.bl_drew bC))
            (first
              | (go_at_call 12; go_split_ands; refine (HA1.out _ (by assumption)).mono ?_; rintro e wA ⟨pa, ca, na, rfl, hna, tA, bA, -, -⟩; (try (have tC2 := tC.below bA)); replace bA := Below.trans (by assumption) (bA.mono (Below.size (by assumption))))
              | (go_at_call 13; go_split_ands; refine (HA2.out _ (by assumption)).mono ?_; rintro e wC ⟨pc, cc, nc, rfl, hnc, tC, bC⟩; (try (have tA2 := tA.below bC)); replace bC := Below.trans (by assumption) (bC.mono (Below.size (by assumption)))))
          all_goals
            go_wp2_with fail
            go_meet
            subst hna hnc
            first
              | exact ⟨pa, ca, pc, cc, _, rfl, rfl, rfl, Lib.hid tA2, Lib.hid tC, Lib.hid bC⟩
              | exact ⟨pa, ca, pc, cc, _, rfl, rfl, rfl, Lib.hid tA, Lib.hid tC2, Lib.hid bA⟩
        case rest =>
          obtain ⟨pa, ca, pc, cc, na, rfl, rfl, hna, TA, TC, BW⟩ := hcut
          rename World => W8
          have HNA := Lib.hid hna
          have hna16 : na ≤ 16 := by rw [hna]; exact HLN.out
          have hac : na ≤ ca ∧ ca ≤ 9223372036854775807 := by have h := TA.out.cap; unfold maxLen at h; omega
          have hcc : na ≤ cc ∧ cc ≤ 9223372036854775807 := by have h := TC.out.cap; unfold maxLen at h; omega
          clear hna HA1 HA2 y0 y1 y2 HH Y7 F7 L6
          go_wp2_with fail
          go_loopw [20] (fun i wr => ∃ k : Nat, k ≤ na ∧ i = .int .i64 k ∧ Hid (Below W8.heap.size W8 wr)) (fun i _ => na - (intOf i).toNat)
          case atStart => exact ⟨0, Nat.zero_le _, rfl, Lib.hid (Below.refl _ _)⟩
          case round =>
            obtain ⟨k, hk, rfl, HB⟩ := hrel
            rename World => wr
            rcases Nat.lt_or_eq_of_le hk with hlt | rfl
            · have hkl : k < L.length := by rw [← HNA.out]; exact hlt
              obtain ⟨g1, o1, rfl, c1'⟩ := text_at (TA.out.below HB.out) hkl
              obtain ⟨g2, o2, rfl, c2'⟩ := text_at (TC.out.below HB.out) hkl
              have q1 : (k : Int) < (na : Int) := by omega
              generalize L[k] = tx at c1' c2'
              clear hkl
              go_wp2_with fail
              go_quiet (fail)
              go_wp2_with fail
              go_roundw
              case rel => exact ⟨k + 1, by omega, by go_num, Lib.hid ⟨HB.out.os, HB.out.tape, HB.out.output, HB.out.size, HB.out.block⟩⟩
              case measure => simp [intOf]; omega
            · have B9 := Lib.hid (BW.out.trans (HB.out.mono BW.out.size))
              clear TA TC
              have HL9 := Lib.hid (HLA.out wr B9.out)
              go_wp2_with fail
              refine HL9.out.mono ?_
              rintro e w' ⟨rfl, rfl⟩
              try subst hla
              go_wp2_with fail
              refine (works_walk _).mono ?_
              rintro e V10 ⟨rfl, hb10⟩
              have B10 := Lib.hid (W7.out.below.trans ((B9.out.trans (hb10.mono B9.out.size)).mono W7.out.below.size))
              clear hb10
              go_wp2_with fail
              go_ret
              exact ⟨rfl, B10.out⟩
  | false =>
    have W4 := W2
    have X4 := X2
    have Q4 := Q2
    have F4 := F1
    clear W2 X2 Q2
    cases hs with
    | false =>
      have HBG := Lib.hid (begin_none W4.out.sto lg (by decide) (K : Nat) HHS.out)
      clear X4 Q4
      go_wp2_with fail
      refine HBG.out.mono ?_
      rintro e V5 ⟨rfl, hb5⟩
      have B5 := Lib.hid (W4.out.below.trans (hb5.mono W4.out.below.size))
      clear hb5 HBG
      have HHD := Lib.hid fun W => rheld_calls (K : Nat) W
      rw [hh.out] at HHD
      go_wp2_with fail
      refine (HHD.out _).mono ?_
      rintro e w' ⟨rfl, rfl⟩
      go_wp2_with fail
      refine (works_walk _).mono ?_
      rintro e V6 ⟨rfl, hb6⟩
      have B6 := Lib.hid (B5.out.trans (hb6.mono B5.out.size))
      clear hb6
      go_wp2_with fail
      go_ret
      exact ⟨rfl, B6.out⟩
    | true =>
      have HBG := begin_some W4.out.sto lg (by decide) (K : Nat) HHS.out
      rw [hh.out] at HBG
      replace HBG := Lib.hid HBG
      have HOK := Lib.hid W4.out.sto.ok
      go_wp2_with fail
      refine HBG.out.mono ?_
      rintro e V5 ⟨ev, ek, bs5, rfl, hE, hek, hs5, ho5, hn5⟩
      have W5 := Lib.hid (W4.out.go hs5 ho5 hn5)
      have X5 := Lib.hid ((ho5.block _ (at_lt X4.out) F4.out).trans X4.out)
      have Q5 := Lib.hid (Beside.out Q4.out ho5 hn5)
      have E5 := Lib.hid hE
      obtain ⟨TT, hTT⟩ : ∃ TT, trT ⟨tL, 10000, 0⟩ (ser lg K) = TT := ⟨_, rfl⟩
      obtain ⟨CC, hCC⟩ : ∃ CC, trC ⟨tL, 10000, 0⟩ (ser lg K) = CC := ⟨_, rfl⟩
      rw [hTT] at W5
      rw [hCC] at E5
      have HTU := rturn_calls ⟨tL, 10000, 0⟩ HOK.out p1 c1 n1 Q5.out.len (by omega) lg (by decide) (K : Nat) V5 Q5.out.fs (fun g o e => (Q5.out.far g o e).2)
      rw [hh.out, hTT, hCC] at HTU
      replace HTU := Lib.hid HTU
      have x0 := at_cell X5.out 0
      have x1 := at_cell X5.out 1
      have x2 := at_cell X5.out 2
      clear hE hek hs5 ho5 hn5 HBG hTT hCC W4 X4 Q4
      go_wp2_with fail
      refine HTU.out.mono ?_
      rintro e V6 ⟨p6, c6, n6, rfl, hF6, hn6, hb6⟩
      obtain ⟨sm, hsm⟩ : ∃ sm, TT.most = sm := ⟨_, rfl⟩
      obtain ⟨sb, hsb⟩ : ∃ sb, TT.bad = sb := ⟨_, rfl⟩
      rw [hsm, hsb]
      have hba := hb6.alloc hb6.size (.cells #[.slice p6 n6 c6, .int .i64 sm, .int .i64 sb] 27 (0, 0))
      have W6 := Lib.hid (W5.out.same hba)
      have Y6 := Lib.hid (at_new V6 (.cells #[.slice p6 n6 c6, .int .i64 sm, .int .i64 sb] 27 (0, 0)))
      have F6 := Lib.hid (hF6.below ((Below.refl V6.heap.size V6).alloc (Nat.le_refl _) (.cells #[.slice p6 n6 c6, .int .i64 sm, .int .i64 sb] 27 (0, 0))))
      have E6 := Lib.hid (E5.out.below hba)
      have L6 := Lib.hid hn6
      have HOF := Lib.hid (of_told E6.out (HT.out _ W6.out.below))
      clear hba hF6 hb6 hn6 HTU hsm hsb W5 X5 Q5 E5 x0 x1 x2
      go_wp2_with fail
      generalize V6.alloc (.cells #[.slice p6 n6 c6, .int .i64 sm, .int .i64 sb] 27 (0, 0)) = Z6 at *
      generalize V6.heap.size = Y at *
      refine HOF.out.mono ?_
      rintro e V7 ⟨rfl, hb7⟩
      have W7 := Lib.hid (W6.out.same hb7)
      have Y7 := Lib.hid ((hb7.block _ (at_lt Y6.out)).trans Y6.out)
      have F7 := Lib.hid (F6.out.below hb7)
      clear hb7 W6 Y6 F6 E6 HOF
      have hce : (CC == CC) = true := by simp
      have hcn : (CC != CC) = false := by simp
      have HIq := Lib.hid (HI.out.kept W7.out.below)
      have HA1 := Lib.hid fun W (hb : Below V7.heap.size V7 W) => all_calls (W7.out.sto.below hb) lg (by decide) (K : Nat)
      have HA2 := Lib.hid fun W (hb : Below V7.heap.size V7 W) => rall_calls TT p6 c6 n6 L6.out sm sb lg (by decide) (K : Nat) W (F7.out.below hb) W7.out.sto.ok.rise
      rw [hh.out] at HA1 HA2
      have HLN : Hid (((fnd TT (ser lg K)).map Fl.bs).length ≤ 16) := Lib.hid (by
        have h1 := fnd_len TT (ser lg K)
        rw [ser_len] at h1
        rw [List.length_map]; omega)
      generalize (fnd TT (ser lg K)).map Fl.bs = L at *
      have HH : Hid (∀ W, Below V7.heap.size V7 W → Below V7.heap.size V7 W ∧ W.cell? ⟨Y, 0, none⟩ = some (.slice p6 n6 c6) ∧ W.cell? ⟨Y, 1, none⟩ = some (.int .i64 sm) ∧ W.cell? ⟨Y, 2, none⟩ = some (.int .i64 sb)) := Lib.hid fun W hb => by
        have h := (hb.block _ (at_lt Y7.out)).trans Y7.out
        exact ⟨hb, at_cell h 0, at_cell h 1, at_cell h 2⟩
      obtain ⟨-, y0, y1, y2⟩ := HH.out V7 (Below.refl _ _)
      rcases Nat.eq_zero_or_pos nq with rfl | hq0
      · have HLA := Lib.hid fun W (hb : Below V7.heap.size V7 W) => last_calls xs q0 cq 0 HNQ.out W (HIq.out.kept hb)
        rw [show lastAt xs = 0 by rw [last_nil HNQ.out.symm]; rfl] at HLA
        obtain ⟨la, hla⟩ : ∃ la : Int, la = 0 := ⟨0, rfl⟩
        rw [← hla] at HLA
        clear HIq HI
        go_upto_region 18 with fail
        go_cut [18, 19] (fun v1 v2 wx => ∃ pa ca pc cc na, v1 = .slice pa na ca ∧ v2 = .slice pc na cc ∧ na = L.length ∧ Hid (Texts wx pa ca L) ∧ Hid (Texts wx pc cc L) ∧ Hid (Below V7.heap.size V7 wx))
        case first =>
          go_region_held3 (fun w' => Below V7.heap.size V7 w' ∧ w'.cell? ⟨Y, 0, none⟩ = some (.slice p6 n6 c6) ∧ w'.cell? ⟨Y, 1, none⟩ = some (.int .i64 sm) ∧ w'.cell? ⟨Y, 2, none⟩ = some (.int .i64 sb))
            (first
              | exact HH.out _ (Below.refl _ _)
              | exact HH.out _ (Tl.bl_drew (Below.refl _ _))
              | exact HH.out _ bA
              | exact HH.out _ (Tl.bl_drew bA)
              | exact HH.out _ bC
              | exact HH.out _ (Tl.bl_drew bC))
            (first
              | (go_at_call 12; go_split_ands; refine (HA1.out _ (by assumption)).mono ?_; rintro e wA ⟨pa, ca, na, rfl, hna, tA, bA, -, -⟩; (try (have tC2 := tC.below bA)); replace bA := Below.trans (by assumption) (bA.mono (Below.size (by assumption))))
              | (go_at_call 13; go_split_ands; refine (HA2.out _ (by assumption)).mono ?_; rintro e wC ⟨pc, cc, nc, rfl, hnc, tC, bC⟩; (try (have tA2 := tA.below bC)); replace bC := Below.trans (by assumption) (bC.mono (Below.size (by assumption)))))
          all_goals
            go_wp2_with fail
            go_meet
            subst hna hnc
            first
              | exact ⟨pa, ca, pc, cc, _, rfl, rfl, rfl, Lib.hid tA2, Lib.hid tC, Lib.hid bC⟩
              | exact ⟨pa, ca, pc, cc, _, rfl, rfl, rfl, Lib.hid tA, Lib.hid tC2, Lib.hid bA⟩
        case rest =>
          obtain ⟨pa, ca, pc, cc, na, rfl, rfl, hna, TA, TC, BW⟩ := hcut
          rename World => W8
          have HNA := Lib.hid hna
          have hna16 : na ≤ 16 := by rw [hna]; exact HLN.out
          have hac : na ≤ ca ∧ ca ≤ 9223372036854775807 := by have h := TA.out.cap; unfold maxLen at h; omega
          have hcc : na ≤ cc ∧ cc ≤ 9223372036854775807 := by have h := TC.out.cap; unfold maxLen at h; omega
          clear hna HA1 HA2 y0 y1 y2 HH Y7 F7 L6
          go_wp2_with fail
          go_loopw [20] (fun i wr => ∃ k : Nat, k ≤ na ∧ i = .int .i64 k ∧ Hid (Below W8.heap.size W8 wr)) (fun i _ => na - (intOf i).toNat)
          case atStart => exact ⟨0, Nat.zero_le _, rfl, Lib.hid (Below.refl _ _)⟩
          case round =>
            obtain ⟨k, hk, rfl, HB⟩ := hrel
            rename World => wr
            rcases Nat.lt_or_eq_of_le hk with hlt | rfl
            · have hkl : k < L.length := by rw [← HNA.out]; exact hlt
              obtain ⟨g1, o1, rfl, c1'⟩ := text_at (TA.out.below HB.out) hkl
              obtain ⟨g2, o2, rfl, c2'⟩ := text_at (TC.out.below HB.out) hkl
              have q1 : (k : Int) < (na : Int) := by omega
              generalize L[k] = tx at c1' c2'
              clear hkl
              go_wp2_with fail
              go_quiet (fail)
              go_wp2_with fail
              go_roundw
              case rel => exact ⟨k + 1, by omega, by go_num, Lib.hid ⟨HB.out.os, HB.out.tape, HB.out.output, HB.out.size, HB.out.block⟩⟩
              case measure => simp [intOf]; omega
            · have B9 := Lib.hid (BW.out.trans (HB.out.mono BW.out.size))
              clear TA TC
              have HL9 := Lib.hid (HLA.out wr B9.out)
              go_wp2_with fail
              refine HL9.out.mono ?_
              rintro e w' ⟨rfl, rfl⟩
              try subst hla
              go_wp2_with fail
              refine (works_walk _).mono ?_
              rintro e V10 ⟨rfl, hb10⟩
              have B10 := Lib.hid (W7.out.below.trans ((B9.out.trans (hb10.mono B9.out.size)).mono W7.out.below.size))
              clear hb10
              go_wp2_with fail
              go_ret
              exact ⟨rfl, B10.out⟩
      · obtain ⟨mq, rfl⟩ : ∃ mq, nq = mq + 1 := ⟨nq - 1, by omega⟩
        have qm : ((mq + 1 : Nat) : Int) - 1 = (mq : Int) := by omega
        have qp : (0 : Int) < ((mq + 1 : Nat) : Int) := by omega
        have HLA := Lib.hid fun W (hb : Below V7.heap.size V7 W) => last_calls xs q0 cq (mq + 1) HNQ.out W (HIq.out.kept hb)
        obtain ⟨gq, oq, rfl, hgq, i0, i1, i2⟩ := its_at HIq.out (k := mq) (by rw [← HNQ.out]; omega)
        rw [show lastAt xs = (xs[mq]'(by rw [← HNQ.out]; omega)).a from lastAt_some HNQ.out.symm] at HLA
        generalize (xs[mq]'(by rw [← HNQ.out]; omega)) = xq at *
        generalize hla : xq.a = la at *
        clear i0 i2
        clear HIq HI
        go_upto_region 18 with fail
        go_cut [18, 19] (fun v1 v2 wx => ∃ pa ca pc cc na, v1 = .slice pa na ca ∧ v2 = .slice pc na cc ∧ na = L.length ∧ Hid (Texts wx pa ca L) ∧ Hid (Texts wx pc cc L) ∧ Hid (Below V7.heap.size V7 wx))
        case first =>
          go_region_held3 (fun w' => Below V7.heap.size V7 w' ∧ w'.cell? ⟨Y, 0, none⟩ = some (.slice p6 n6 c6) ∧ w'.cell? ⟨Y, 1, none⟩ = some (.int .i64 sm) ∧ w'.cell? ⟨Y, 2, none⟩ = some (.int .i64 sb))
            (first
              | exact HH.out _ (Below.refl _ _)
              | exact HH.out _ (Tl.bl_drew (Below.refl _ _))
              | exact HH.out _ bA
              | exact HH.out _ (Tl.bl_drew bA)
              | exact HH.out _ bC
              | exact HH.out _ (Tl.bl_drew bC))
            (first
              | (go_at_call 12; go_split_ands; refine (HA1.out _ (by assumption)).mono ?_; rintro e wA ⟨pa, ca, na, rfl, hna, tA, bA, -, -⟩; (try (have tC2 := tC.below bA)); replace bA := Below.trans (by assumption) (bA.mono (Below.size (by assumption))))
              | (go_at_call 13; go_split_ands; refine (HA2.out _ (by assumption)).mono ?_; rintro e wC ⟨pc, cc, nc, rfl, hnc, tC, bC⟩; (try (have tA2 := tA.below bC)); replace bC := Below.trans (by assumption) (bC.mono (Below.size (by assumption)))))
          all_goals
            go_wp2_with fail
            go_meet
            subst hna hnc
            first
              | exact ⟨pa, ca, pc, cc, _, rfl, rfl, rfl, Lib.hid tA2, Lib.hid tC, Lib.hid bC⟩
              | exact ⟨pa, ca, pc, cc, _, rfl, rfl, rfl, Lib.hid tA, Lib.hid tC2, Lib.hid bA⟩
        case rest =>
          obtain ⟨pa, ca, pc, cc, na, rfl, rfl, hna, TA, TC, BW⟩ := hcut
          rename World => W8
          have HNA := Lib.hid hna
          have hna16 : na ≤ 16 := by rw [hna]; exact HLN.out
          have hac : na ≤ ca ∧ ca ≤ 9223372036854775807 := by have h := TA.out.cap; unfold maxLen at h; omega
          have hcc : na ≤ cc ∧ cc ≤ 9223372036854775807 := by have h := TC.out.cap; unfold maxLen at h; omega
          clear hna HA1 HA2 y0 y1 y2 HH Y7 F7 L6
          go_wp2_with fail
          go_loopw [20] (fun i wr => ∃ k : Nat, k ≤ na ∧ i = .int .i64 k ∧ Hid (Below W8.heap.size W8 wr)) (fun i _ => na - (intOf i).toNat)
          case atStart => exact ⟨0, Nat.zero_le _, rfl, Lib.hid (Below.refl _ _)⟩
          case round =>
            obtain ⟨k, hk, rfl, HB⟩ := hrel
            rename World => wr
            rcases Nat.lt_or_eq_of_le hk with hlt | rfl
            · have hkl : k < L.length := by rw [← HNA.out]; exact hlt
              obtain ⟨g1, o1, rfl, c1'⟩ := text_at (TA.out.below HB.out) hkl
              obtain ⟨g2, o2, rfl, c2'⟩ := text_at (TC.out.below HB.out) hkl
              have q1 : (k : Int) < (na : Int) := by omega
              generalize L[k] = tx at c1' c2'
              clear hkl
              go_wp2_with fail
              go_quiet (fail)
              go_wp2_with fail
              go_roundw
              case rel => exact ⟨k + 1, by omega, by go_num, Lib.hid ⟨HB.out.os, HB.out.tape, HB.out.output, HB.out.size, HB.out.block⟩⟩
              case measure => simp [intOf]; omega
            · have B9 := Lib.hid (BW.out.trans (HB.out.mono BW.out.size))
              clear TA TC
              have HL9 := Lib.hid (HLA.out wr B9.out)
              go_wp2_with fail
              refine HL9.out.mono ?_
              rintro e w' ⟨rfl, rfl⟩
              try subst hla
              go_wp2_with fail
              refine (works_walk _).mono ?_
              rintro e V10 ⟨rfl, hb10⟩
              have B10 := Lib.hid (W7.out.below.trans ((B9.out.trans (hb10.mono B9.out.size)).mono W7.out.below.size))
              clear hb10
              go_wp2_with fail
              go_ret
              exact ⟨rfl, B10.out⟩
end Go.Proofs.YtngangdjbbbbdaaGreatDoor.Rst
end


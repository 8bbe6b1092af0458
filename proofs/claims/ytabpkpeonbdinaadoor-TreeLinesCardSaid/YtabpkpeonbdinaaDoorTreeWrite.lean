/-
  Layer 13 (tree): write, Print.
-/
import Derived.Test.YtabpkpeonbdinaaDoorTreeHead
namespace Go.Proofs.YtabpkpeonbdinaaDoor.Tree
open Go.RowKit Go.Proofs.YtabpkpeonbdinaaDoor.Own Go.Proofs.YtabpkpeonbdinaaDoor.Rw Go.Proofs.YtabpkpeonbdinaaDoor.Lex

/-- a builder that holds a text -/
def Bd (B b : Nat) (t : List UInt8) (w : World) : Prop := Lib.IsBuilder 60 5 B b (Lib.byteCells t) w
theorem bdAt_below {B b : Nat} {p : Value} {bs : List Value} {w w' : World} (h : Lib.BuilderAt 60 5 B b p bs w) (hb : Below w.heap.size w w') : Lib.BuilderAt 60 5 B b p bs w' := by
  obtain ⟨h1, v, h2, h3, h4⟩ := h
  exact ⟨h1, v, (hb.block _ (at_lt h2)).trans h2, own_below h3 hb, h4⟩
theorem Bd.below {B b : Nat} {t : List UInt8} {w w' : World} (h : Bd B b t w) (hb : Below w.heap.size w w') : Bd B b t w' := h.imp (fun h => bdAt_below h hb) fun h => bdAt_below h hb
theorem info_u8 : (Tryd.prog.info? 5).map (fun i => (i.zero, i.size, i.bytes)) = some (some (.int .u8 0), 1, 1) := by kernel_rfl
theorem copy_calls (b : Nat) (p v : Value) (w : World) (hbk : w.heap[b]? = some (.cells #[p, v] 60 (0, 0))) (hp : p = .pointer none ∨ p = .pointer (some ⟨b, 0, none⟩)) :
    Calls Tryd.prog 53 #[.pointer (some ⟨b, 0, none⟩)] w fun e w' => e = .returned (.tuple #[]) ∧ w'.heap[b]? = some (.cells #[.pointer (some ⟨b, 0, none⟩), v] 60 (0, 0)) ∧ Out (fun k => k = b) w w' := by
  rcases hp with rfl | rfl
  · refine (Any.Builder_copyCheck_fresh (ρ := Tryd.lays156_ren) { Tryd.lays156 with } Tryd.Builder_Extra_156.toX72 b w (at_cell hbk 0) (by simp [World.shape?, hbk]; rfl) (at_frozen hbk 0)).mono ?_
    rintro e w' ⟨rfl, rfl⟩
    exact ⟨rfl, at_set hbk 0 _, (Out.refl (fun k => k = b) w).setCell (p := ⟨b, 0, none⟩) (fun _ => rfl) _⟩
  · refine (Any.Builder_copyCheck_used (ρ := Tryd.lays156_ren) { Tryd.lays156 with } Tryd.Builder_Extra_156.toX72 b w (at_cell hbk 0)).mono ?_
    rintro e w' ⟨rfl, rfl⟩
    exact ⟨rfl, hbk, Out.refl _ _⟩
/-- the blocks of a builder -/
def BdS (b : Nat) (w : World) (k : Nat) : Prop := k = b ∨ ∃ p v, w.heap[b]? = some (.cells #[p, v] 60 (0, 0)) ∧ v.ownBlock = some k
theorem Bd.lt {B b : Nat} {t : List UInt8} {w : World} (h : Bd B b t w) {k : Nat} (hk : BdS b w k) : B ≤ k ∧ k < w.heap.size := by
  obtain ⟨p, h1, v, h2, h3, h4⟩ : ∃ p, Lib.BuilderAt 60 5 B b p (Lib.byteCells t) w := by
    rcases h with h | h
    · exact ⟨_, h⟩
    · exact ⟨_, h⟩
  rcases hk with rfl | ⟨p', v', e, hk⟩
  · exact ⟨h1, at_lt h2⟩
  · rw [h2] at e
    have e := Option.some.inj e
    injection e with e1 _ _
    have : v = v' := by injection e1 with e1; injection e1 with _ e1; injection e1
    subst this
    exact World.ownsRow.lt h3 k hk
theorem BdS.same {b : Nat} {w w' : World} (h : w'.heap[b]? = w.heap[b]?) {k : Nat} (hk : BdS b w' k) : BdS b w k := by
  rcases hk with rfl | ⟨p', v', e, hk⟩
  · exact .inl rfl
  · exact .inr ⟨p', v', h ▸ e, hk⟩
set_option maxHeartbeats 2000000 in
set_option maxRecDepth 100000 in
theorem wstr_calls (B b : Nat) (acc : List UInt8) (s : ByteArray) (w : World) (h : Bd B b acc w) (hlen : acc.length + s.size ≤ 140737488355328) (hB : B ≤ w.heap.size) :
    Calls Tryd.prog 33 #[.pointer (some ⟨b, 0, none⟩), .string s] w fun e w' => e = .returned (.tuple #[.int .i64 s.size, .nilIface]) ∧ Bd B b (acc ++ s.data.toList) w' ∧ Below B w w' ∧ Out (BdS b w) w w' := by
  obtain ⟨i0, hi, hz0, hz1, hz2⟩ := info_parts info_u8
  obtain ⟨p, hp, hBb, v, hbk, hown, hne⟩ : ∃ p, (p = .pointer none ∨ p = .pointer (some ⟨b, 0, none⟩)) ∧ Lib.BuilderAt 60 5 B b p (Lib.byteCells acc) w := by
    rcases h with h | h
    · exact ⟨_, .inl rfl, h⟩
    · exact ⟨_, .inr rfl, h⟩
  have HC := Lib.hid (copy_calls b p v w hbk hp)
  have HOWN := Lib.hid hown
  have HBK := Lib.hid hbk
  clear hown h hp hbk
  go_enter Tryd.func33, Tryd.ntmps33
  go_wp2_with (go_at_call 53; refine HC.out.mono ?_)
  rintro e w1 ⟨rfl, hb1, ho1⟩
  have own1 := own_out HOWN.out ho1 fun k e hk => hne (hk ▸ e)
  have c1 : w1.cell? ⟨b, 1, none⟩ = some v := at_cell hb1 1
  have s1 := ho1.size
  have HB1 := Lib.hid hb1
  have HO1 := Lib.hid ho1
  clear hb1 ho1
  go_wp2_with (at_builtin; refine Lib.wpList_append_own_string _ rfl _ _ 58 9 rfl B 5 i0 Tryd.underlying58 Tryd.underlying9 hi hz0 hz1 hz2 _ _ _ rfl own1 s rfl ?c3 ?c4 ?c5 ?_)
  case c3 => rw [Lib.byteCells_length]; unfold maxLen; omega
  case c4 => rw [Lib.byteCells_length]; omega
  case c5 => omega
  intro v' w2 hown' hgrow _
  have hb2 : w2.heap[b]? = some (.cells #[.pointer (some ⟨b, 0, none⟩), v] 60 (0, 0)) := by
    rw [hgrow.block b (at_lt HB1.out) (fun e => hne e.symm)]
    exact HB1.out
  have d1 : w2.cell? ⟨b, 1, none⟩ = some v := at_cell hb2 1
  have f1 : w2.frozen? ⟨b, 1, none⟩ = false := at_frozen hb2 1
  obtain ⟨ao, n', cap, rfl⟩ : ∃ ao n' cap, v' = .slice ao n' cap := by
    rcases hown'.2 with ⟨hv, _⟩ | ⟨g, cap, cur, hv, _⟩
    · exact ⟨_, _, _, hv⟩
    · exact ⟨_, _, _, hv⟩
  have HG := Lib.hid hgrow
  have HW := Lib.hid hown'
  have HB2 := Lib.hid hb2
  clear hgrow hown' hb2
  go_wp2
  go_ret2
  have OO : Out (BdS b w) w (w2.setCell ⟨b, 1, none⟩ (.slice ao n' cap)) :=
    (out_grown (HO1.out.mono (S' := BdS b w) fun k _ e => .inl e) HG.out fun k e _ => .inr ⟨p, v, HBK.out, e⟩).setCell (p := ⟨b, 1, none⟩) (fun _ => .inl rfl) _
  refine ⟨rfl, .inr ?_, OO.below hB fun k hk => ?_, OO⟩
  · rw [show Lib.byteCells (acc ++ s.data.toList) = Lib.byteCells acc ++ Lib.strCells s by rw [Lib.strCells_eq]; simp [Lib.byteCells]]
    exact Lib.BuilderAt.put (T := 60) (e := 5) hBb HB2.out (bs' := Lib.byteCells acc ++ Lib.strCells s) (by simpa [Lib.strCells_length] using HW.out) (by decide)
  · rcases hk with rfl | ⟨p', v', e, hk⟩
    · exact hBb
    · rw [HBK.out] at e
      have e := Option.some.inj e
      injection e with e1 _ _
      have : v = v' := by injection e1 with e1; injection e1 with _ e1; injection e1
      subst this
      exact (World.ownsRow.lt HOWN.out k hk).1
theorem repeat_two (d : Nat) (hd : d ≤ 4) (w : World) : Calls Tryd.prog 31 #[.string ⟨#[32, 32]⟩, .int .i64 d] w fun e w' => e = .returned (.string ⟨(ind d).toArray⟩) ∧ Below w.heap.size w w' :=
  Tryd.strings_Repeat ⟨#[32, 32]⟩ d w (by omega) (by rw [show (⟨#[32, 32]⟩ : ByteArray).size = 2 from rfl]; omega)
theorem list_app (a b : ByteArray) : (a ++ b).data.toList = a.data.toList ++ b.data.toList := by simp [ByteArray.data_append]
theorem size_list (s : ByteArray) : s.data.toList.length = s.size := Array.length_toList
theorem is_some {T R L : Option (List UInt8)} {tk u : List UInt8} (h : L = (T.bind fun t => R.map fun r => t ++ r).map fun r => tk ++ r) (e : T = some u) : L = R.map fun r => (tk ++ u) ++ r := by subst e; cases R <;> simp [h]
theorem is_none {T R L : Option (List UInt8)} {tk : List UInt8} (h : L = (T.bind fun t => R.map fun r => t ++ r).map fun r => tk ++ r) (e : T = none) : L = none := by subst e; simpa using h

/-- where write stands -/
structure WrAt (w0 w wr : World) (b d : Nat) (acc : List UInt8) (l : List Nd) (k : Nat) (tk : List UInt8) : Prop where
  base : Below w0.heap.size w0 wr
  below : Below w0.heap.size w wr
  bd : Bd w0.heap.size b (acc ++ tk) wr
  is : txtL d l = (txtL d (l.drop k)).map fun r => tk ++ r
  room : acc.length + tk.length + wtL (l.drop k) ≤ 549755813888

def WrPost (w0 w : World) (b d : Nat) (acc : List UInt8) (l : List Nd) (e : Ending) (w' : World) : Prop :=
  e = .returned (.bool (txtL d l).isSome) ∧ Below w0.heap.size w w' ∧ ∀ t, txtL d l = some t → Bd w0.heap.size b (acc ++ t) w'

set_option maxRecDepth 100000 in
set_option maxHeartbeats 4000000 in
theorem write_calls : ∀ (s : Nat) (l : List Nd) (d b : Nat) (dv : Int) (acc : List UInt8) (p : Option Addr) (n c : Nat) (w0 w : World), SizeOf.sizeOf l = s → n = l.length → dv = d → d ≤ 4 → Sl w0 (.slice p n c) l →
    Below w0.heap.size w0 w → Bd w0.heap.size b acc w → acc.length + wtL l ≤ 549755813888 →
    Calls Tryd.prog 18 #[.pointer (some ⟨b, 0, none⟩), .slice p n c, .int .i64 dv] w (WrPost w0 w b d acc l) := by
  intro s
  induction s using Nat.strongRecOn with
  | ind s ih =>
  intro l d b dv acc p n c w0 w hs hn hdv hd h1 hB hbd hroom
  subst hdv
  have IH := Lib.hid fun (x : List Nd) (d : Nat) (dv : Int) (acc : List UInt8) (p : Option Addr) (n c : Nat) (w : World) (hlt : SizeOf.sizeOf x < SizeOf.sizeOf l) (hn : n = x.length) (hdv : dv = d) (hd : d ≤ 4) (h : Sl w0 (.slice p n c) x) hB hbd hr => ih _ (hs ▸ hlt) x d b dv acc p n c w0 w rfl hn hdv hd h hB hbd hr
  have H1 := Lib.hid h1
  obtain ⟨_, _, hv, hc1, hm1⟩ := h1.slice
  injection hv with e1 z1 e2
  subst e1 e2
  clear z1
  rw [← hn] at hc1
  unfold maxLen at hm1
  have HN := Lib.hid hn
  have HBD := Lib.hid hbd
  have HB := Lib.hid hB
  have HR := Lib.hid hroom
  have hBs := hB.size
  clear h1 ih hs hn hB hbd hroom
  go_enter Tryd.func18, Tryd.ntmps18
  go_wp2_with fail
  refine (repeat_two d hd _).mono ?_
  rintro e w1 ⟨rfl, hb1⟩
  have HIL := Lib.hid (ind_len d)
  obtain ⟨I, hI⟩ : ∃ I : ByteArray, I = ⟨(ind d).toArray⟩ := ⟨_, rfl⟩
  have hIs : I.size ≤ 8 := by rw [hI]; show (ind d).toArray.size ≤ 8; rw [List.size_toArray, HIL.out]; omega
  have HI := Lib.hid (show I.data.toList = ind d by rw [hI])
  rw [← hI]
  clear hI
  have W1 := Lib.hid (show WrAt w0 w w1 b d acc l 0 [] from ⟨HB.out.trans (hb1.mono hBs), hb1.mono hBs, by rw [List.append_nil]; exact HBD.out.below hb1, by simp, by simpa using HR.out⟩)
  clear hb1
  go_wp2_with fail
  go_loopw [16] (fun i wr => ∃ (k : Nat) (tk : List UInt8), k ≤ n ∧ i = .int .i64 k ∧ WrAt w0 w wr b d acc l k tk) (fun i _ => n - (intOf i).toNat)
  case atStart => exact ⟨0, [], by omega, rfl, W1.out⟩
  case round =>
    obtain ⟨k, tk, hk, rfl, C⟩ := hrel
    rename World => wr
    have HC := Lib.hid C
    have hsz := C.base.size
    clear C
    rcases Nat.lt_or_eq_of_le hk with hlt | rfl
    · have hl1 : k < l.length := by rw [← HN.out]; exact hlt
      obtain ⟨g, pa, ca, pl, cl, rfl, hg, ⟨c0, c1, c2, c3, c4⟩, ha, hl⟩ := H1.out.at_ hl1
      have hb := HC.out.base
      have x0 := (hb.cell (p := ⟨g, k * 5, none⟩) hg).trans c0
      have x1 := (hb.cell (p := ⟨g, k * 5 + 1, none⟩) hg).trans c1
      have x2 := (hb.cell (p := ⟨g, k * 5 + 2, none⟩) hg).trans c2
      have x3 := (hb.cell (p := ⟨g, k * 5 + 3, none⟩) hg).trans c3
      have x4 := (hb.cell (p := ⟨g, k * 5 + 4, none⟩) hg).trans c4
      have lg : g < wr.heap.size := Nat.lt_of_lt_of_le hg hsz
      clear c0 c1 c2 c3 c4 hb
      have HLT := Lib.hid (list_lt_at hl1)
      have his := HC.out.is
      have hrm := HC.out.room
      rw [List.drop_eq_getElem_cons hl1, txtL_cons] at his
      rw [List.drop_eq_getElem_cons hl1, wtL_cons, wt_open] at hrm
      have HIS := Lib.hid his
      clear his
      generalize l[k] = x at *
      have q1 : (k : Int) < (n : Int) := by omega
      have HO := Lib.hid (txtN_open d x)
      have HHL := Lib.hid fun h e => headT_len (k := x.key) (al := x.args) (h := h) e
      have HH := Lib.hid fun w1 (hw : Below w0.heap.size w0 w1) => head_calls x w1 pa pl ca cl (own_below ha hw) (by omega)
      unfold ndv at HH
      have HRM := Lib.hid hrm
      have HSL := Lib.hid hl
      clear hrm hl ha
      have BA := HC.out.base.alloc (show w0.heap.size ≤ wr.heap.size from hsz) (.cells #[.string ⟨x.key.toArray⟩, .slice pa x.args.length ca, .bool x.block, .slice pl x.list.length cl, .int .i64 x.line] 35)
      cases hh : headT x.key x.args with
      | none =>
        have HT := Lib.hid (is_none HIS.out (by rw [HO.out, hh]))
        rw [hh] at HH
        have HHA := Lib.hid (HH.out _ BA)
        clear BA
        go_wp2_with (go_at_call 32; refine HHA.out.mono ?_; rintro e w5 ⟨rfl, hb5⟩; have n5 := (hb5.block _ (by simp)).trans (at_new wr _); obtain ⟨⟨y0, y1, y2, y3, y4⟩, -⟩ := row5 n5; have B5 := Lib.hid ((HC.out.below.alloc hsz _).trans (hb5.mono (by simp; omega))); clear hb5 n5)
        go_ret
        exact ⟨by rw [HT.out]; rfl, B5.out, fun t e => by rw [HT.out] at e; cases e⟩
      | some h =>
        rw [hh] at HH HO
        have HHA := Lib.hid (HH.out _ BA)
        have hhl := HHL.out h hh
        have hHd : (⟨h.toArray⟩ : ByteArray).size ≤ 549755813888 := by
          show h.toArray.size ≤ _
          rw [List.size_toArray]
          have := HRM.out
          omega
        have HD := Lib.hid (show (⟨h.toArray⟩ : ByteArray).data.toList = h from rfl)
        have HDS := Lib.hid (show (⟨h.toArray⟩ : ByteArray).size = h.length from List.size_toArray ..)
        rw [show ((some h : Option (List UInt8)).getD []) = h from rfl, show (some h : Option (List UInt8)).isSome = true from rfl] at HHA
        generalize (⟨h.toArray⟩ : ByteArray) = Hd at *
        have HHL2 := Lib.hid hhl
        clear HH HHL hhl hh BA
        cases hbx : x.block with
        | false =>
          rw [hbx] at HHA
          rw [hbx] at x2
          cases hls : x.list with
          | nil =>
            have HT := Lib.hid (is_some HIS.out (show txtN d x = some (ind d ++ h ++ [59, 10]) by rw [HO.out, hbx, hls]; rfl))
            have HSI := Lib.hid (show (I ++ Hd ++ ⟨#[59, 10]⟩).size = I.size + Hd.size + 2 by rw [ByteArray.size_append, ByteArray.size_append]; rfl)
            have HLI := Lib.hid (show (I ++ Hd ++ ⟨#[59, 10]⟩).data.toList = ind d ++ h ++ [59, 10] by rw [list_app, list_app, HI.out, HD.out])
            rw [hls, List.length_nil] at HHA x3
            go_wp2_with fail
            refine HHA.out.mono ?_
            rintro e w5 ⟨rfl, hb5⟩
            have n5 := (hb5.block _ (by simp)).trans (at_new wr _)
            obtain ⟨⟨y0, y1, y2, y3, y4⟩, -⟩ := row5 n5
            have l5 := at_lt n5
            have hs5 := hb5.size
            rw [show (wr.alloc _).heap.size = wr.heap.size + 1 by simp] at hs5
            have A5 := Lib.hid ((HC.out.base.alloc hsz _).trans (hb5.mono (by simp; omega)))
            have B5 := Lib.hid ((HC.out.below.alloc hsz _).trans (hb5.mono (by simp; omega)))
            have D5 := Lib.hid ((HC.out.bd.below ((Below.refl _ _).alloc (Nat.le_refl _) _)).below hb5)
            clear hb5 n5
            go_wp2_with fail
            refine (wstr_calls w0.heap.size b (acc ++ tk) _ w5 D5.out (by rw [HSI.out, List.length_append]; have := HRM.out; omega) (by omega)).mono ?_
            rintro e w6 ⟨rfl, hd6, hb6, -⟩
            have W6 := Lib.hid (show WrAt w0 w w6 b d acc l (k + 1) (tk ++ (ind d ++ h ++ [59, 10])) from
              ⟨A5.out.trans hb6, B5.out.trans hb6, by rw [HLI.out, List.append_assoc] at hd6; exact hd6, HT.out, by
                have := HRM.out; have := HHL2.out; have := HIL.out
                simp only [List.length_append, List.length_cons, List.length_nil] at *
                omega⟩)
            clear hd6 hb6
            go_wp2_with fail
            go_roundw
            case rel => exact ⟨k + 1, _, by omega, by go_num, W6.out⟩
            case measure => simp [intOf]; omega
          | cons y ys =>
            have HT := Lib.hid (is_none HIS.out (by rw [HO.out, hbx, hls]; rfl))
            rw [hls] at HHA x3
            have q4 : (0 : Int) < ((y :: ys).length : Int) := by rw [List.length_cons]; omega
            generalize (y :: ys).length = m at *
            go_wp2_with (go_at_call 32; refine HHA.out.mono ?_; rintro e w5 ⟨rfl, hb5⟩; have n5 := (hb5.block _ (by simp)).trans (at_new wr _); obtain ⟨⟨y0, y1, y2, y3, y4⟩, -⟩ := row5 n5; have B5 := Lib.hid ((HC.out.below.alloc hsz _).trans (hb5.mono (by simp; omega))); clear hb5 n5)
            go_ret
            exact ⟨by rw [HT.out]; rfl, B5.out, fun t e => by rw [HT.out] at e; cases e⟩
        | true =>
          rw [hbx] at HHA
          rw [hbx] at x2
          by_cases h4 : d = 4
          · have HT := Lib.hid (is_none HIS.out (by rw [HO.out, hbx]; exact (if_pos rfl).trans (if_pos h4)))
            have b4 : ((d : Int) == 4) = true := by simp [h4]
            have HH4 := Lib.hid h4
            clear h4
            go_wp2_with (go_at_call 32; refine HHA.out.mono ?_; rintro e w5 ⟨rfl, hb5⟩; have n5 := (hb5.block _ (by simp)).trans (at_new wr _); obtain ⟨⟨y0, y1, y2, y3, y4⟩, -⟩ := row5 n5; have B5 := Lib.hid ((HC.out.below.alloc hsz _).trans (hb5.mono (by simp; omega))); clear hb5 n5)
            go_ret
            exact ⟨by rw [HT.out]; rfl, B5.out, fun t e => by rw [HT.out] at e; cases e⟩
          · have b4 : ((d : Int) == 4) = false := by simp; omega
            have HO2 := Lib.hid (show txtN d x = (txtL (d + 1) x.list).map fun t => ind d ++ h ++ [32, 123, 10] ++ t ++ (ind d ++ [125, 10]) by rw [HO.out, hbx]; exact (if_pos rfl).trans (if_neg h4))
            have HSI := Lib.hid (show (I ++ Hd ++ ⟨#[32, 123, 10]⟩).size = I.size + Hd.size + 3 by rw [ByteArray.size_append, ByteArray.size_append]; rfl)
            have HLI := Lib.hid (show (I ++ Hd ++ ⟨#[32, 123, 10]⟩).data.toList = ind d ++ h ++ [32, 123, 10] by rw [list_app, list_app, HI.out, HD.out])
            have HSJ := Lib.hid (show (I ++ ⟨#[125, 10]⟩).size = I.size + 2 by rw [ByteArray.size_append]; rfl)
            have HLJ := Lib.hid (show (I ++ ⟨#[125, 10]⟩).data.toList = ind d ++ [125, 10] by rw [list_app, HI.out])
            have hd3 : d + 1 ≤ 4 := by omega
            have HTL := Lib.hid (txt_len _ x.list (d + 1) · rfl hd3)
            clear h4
            go_wp2_with fail
            refine HHA.out.mono ?_
            rintro e w5 ⟨rfl, hb5⟩
            have n5 := (hb5.block _ (by simp)).trans (at_new wr _)
            obtain ⟨⟨y0, y1, y2, y3, y4⟩, -⟩ := row5 n5
            have l5 := at_lt n5
            have N5 := Lib.hid n5
            have hs5 := hb5.size
            rw [show (wr.alloc _).heap.size = wr.heap.size + 1 by simp] at hs5
            have A5 := Lib.hid ((HC.out.base.alloc hsz _).trans (hb5.mono (by simp; omega)))
            have B5 := Lib.hid ((HC.out.below.alloc hsz _).trans (hb5.mono (by simp; omega)))
            have D5 := Lib.hid ((HC.out.bd.below ((Below.refl _ _).alloc (Nat.le_refl _) _)).below hb5)
            have SB5 := Lib.hid (show ∀ k, BdS b w5 k → k < wr.heap.size from fun k hk => (HC.out.bd.lt (BdS.same ((hb5.block b (by have := (HC.out.bd.lt (.inl rfl)).2; simp; omega)).trans (Below.heap_alloc _ _ _ (HC.out.bd.lt (.inl rfl)).2)) hk)).2)
            clear hb5 n5
            go_wp2_with fail
            refine (wstr_calls w0.heap.size b (acc ++ tk) _ w5 D5.out (by rw [HSI.out, List.length_append]; have := HRM.out; omega) (by omega)).mono ?_
            rintro e w6 ⟨rfl, hd6, hb6, ho6⟩
            have n6 := ho6.at_ N5.out fun hk => Nat.lt_irrefl _ (SB5.out _ hk)
            obtain ⟨⟨z0, z1, z2, z3, z4⟩, -⟩ := row5 n6
            have l6 := at_lt n6
            have A6 := A5.out.trans hb6
            have B6 := Lib.hid (B5.out.trans hb6)
            have hs6 := A6.size
            have HK := Lib.hid (IH.out x.list (d + 1) ((d : Int) + 1) (acc ++ tk ++ (ind d ++ h ++ [32, 123, 10])) pl _ cl w6 HLT.out rfl (by simp) hd3 HSL.out A6 (by rw [HLI.out] at hd6; exact hd6) (by
              have := HRM.out; have := HHL2.out; have := HIL.out
              simp only [List.length_append, List.length_cons, List.length_nil] at *
              omega))
            have HA6 := Lib.hid A6
            clear hd6 hb6 ho6 n6 A6 y0 y1 y2 y3 y4
            unfold WrPost at HK
            cases hx : txtL (d + 1) x.list with
            | none =>
              rw [hx] at HK
              have HT := Lib.hid (is_none HIS.out (by rw [HO2.out, hx]; rfl))
              go_wp2_with (go_at_call 18; refine HK.out.mono ?_; rintro e w7 ⟨rfl, hb7, -⟩)
              go_ret
              exact ⟨by rw [HT.out]; rfl, B6.out.trans hb7, fun t e => by rw [HT.out] at e; cases e⟩
            | some t =>
              have hlt := HTL.out t hx
              rw [hx] at HK
              have HT := Lib.hid (is_some HIS.out (show txtN d x = some (ind d ++ h ++ [32, 123, 10] ++ t ++ (ind d ++ [125, 10])) by rw [HO2.out, hx]; rfl))
              go_wp2_with fail
              refine HK.out.mono ?_
              rintro e w7 ⟨rfl, hb7, hd7⟩
              have D7 := Lib.hid (hd7 t rfl)
              have A7 := Lib.hid (HA6.out.trans hb7)
              have B7 := Lib.hid (B6.out.trans hb7)
              have hs7 := A7.out.size
              clear hb7 hd7
              go_wp2_with fail
              refine (wstr_calls w0.heap.size b _ _ w7 D7.out (by
                have := HRM.out; have := HHL2.out; have := HIL.out; have := HSJ.out
                rw [HSJ.out]
                simp only [List.length_append, List.length_cons, List.length_nil] at *
                omega) (by omega)).mono ?_
              rintro e w8 ⟨rfl, hd8, hb8, -⟩
              have W8 := Lib.hid (show WrAt w0 w w8 b d acc l (k + 1) (tk ++ (ind d ++ h ++ [32, 123, 10] ++ t ++ (ind d ++ [125, 10]))) from
                ⟨A7.out.trans hb8, B7.out.trans hb8, by rw [HLJ.out] at hd8; simpa [List.append_assoc] using hd8, HT.out, by
                  have := HRM.out; have := HHL2.out; have := HIL.out
                  simp only [List.length_append, List.length_cons, List.length_nil] at *
                  omega⟩)
              clear hd8 hb8
              go_wp2_with fail
              go_roundw
              case rel => exact ⟨k + 1, _, by omega, by go_num, W8.out⟩
              case measure => simp [intOf]; omega
    · have HT := Lib.hid (show txtL d l = some tk by
        rw [HC.out.is, List.drop_eq_nil_of_le (by have := HN.out; omega), txtL_nil]; simp)
      go_wp2_with fail
      go_ret
      exact ⟨by rw [HT.out]; rfl, HC.out.below, fun t e => by rw [HT.out] at e; cases e; exact HC.out.bd⟩

def prC : Option (List UInt8) → Int
  | some _ => 0
  | none => 3
def prT : Option (List UInt8) → List UInt8
  | some t => t
  | none => []
set_option maxRecDepth 100000 in
set_option maxHeartbeats 4000000 in
/-- Print: statements as text, or that there is none -/
theorem print_calls (l : List Nd) (p : Option Addr) (n c : Nat) (w : World) (hn : n = l.length) (h : Sl w (.slice p n c) l) (hr : wtL l ≤ 549755813888) :
    Calls Tryd.prog 9 #[.slice p n c] w fun e w' => e = .returned (.tuple #[.string ⟨(prT (txtL 0 l)).toArray⟩, .int .i64 (prC (txtL 0 l))]) ∧ Below w.heap.size w w' := by
  have HB := Lib.hid (Lib.fresh_isBuilder 60 5 w)
  have HW := Lib.hid (write_calls _ l 0 w.heap.size 0 [] p n c w (w.alloc (.cells #[.pointer none, .slice none 0 0] 60)) rfl hn rfl (by omega) h ((Below.refl _ _).alloc (Nat.le_refl _) _) HB.out (by simpa using hr))
  unfold WrPost at HW
  clear h hr hn
  go_enter Tryd.func9, Tryd.ntmps9
  go_wp2_with fail
  refine HW.out.mono ?_
  rintro e w1 ⟨rfl, hb1, hd1⟩
  have B1 := Lib.hid (((Below.refl w.heap.size w).alloc (Nat.le_refl _) (.cells #[.pointer none, .slice none 0 0] 60)).trans hb1)
  have hs1 := B1.out.size
  clear hb1
  cases hx : txtL 0 l with
  | none =>
    have HX := Lib.hid hx
    clear hx
    go_wp2_with fail
    go_ret2
    exact ⟨by rw [HX.out]; rfl, B1.out⟩
  | some t =>
    have D1 := Lib.hid (hd1 t hx)
    have HX := Lib.hid hx
    clear hd1 hx
    rw [List.nil_append] at D1
    go_wp2_with (go_at_call 19; refine (Tryd.Builder_String_any w.heap.size w.heap.size t w1 D1.out (by omega)).mono ?_; rintro e w2 ⟨rfl, hb2⟩)
    go_ret2
    exact ⟨by rw [HX.out]; rfl, B1.out.trans hb2⟩
end Go.Proofs.YtabpkpeonbdinaaDoor.Tree

/-
Layer 13 (tree): write, Print.
Layer 15 (conf): Print.
Layer 2 (digit): the document's own answers, walked: padding.
Layer 2 (digit): the program's Pad, walked.
Layer 2 (digit): the document's own answers, walked: hex.
Layer 2 (digit): the document's own Sign and Show, walked.
Layer 2 (digit): the program's ReadHex, walked.
-/
import Derived.Test.YtajfdachpdkbcaaGreatDoorPack8
import Derived.Test.YtajfdachpdkbcaaGreatDoorShelf
section
namespace Go.Proofs.YtajfdachpdkbcaaGreatDoor.Tree
open Go.RowKit Go.Proofs.YtajfdachpdkbcaaGreatDoor.Own Go.Proofs.YtajfdachpdkbcaaGreatDoor.Rw Go.Proofs.YtajfdachpdkbcaaGreatDoor.Lex

/-- a builder that holds a text -/
def Bd (B b : Nat) (t : List UInt8) (w : World) : Prop := Lib.IsBuilder 115 5 B b (Lib.byteCells t) w
theorem bdAt_below {B b : Nat} {p : Value} {bs : List Value} {w w' : World} (h : Lib.BuilderAt 115 5 B b p bs w) (hb : Below w.heap.size w w') : Lib.BuilderAt 115 5 B b p bs w' := by
  obtain ⟨h1, v, h2, h3, h4⟩ := h
  exact ⟨h1, v, (hb.block _ (at_lt h2)).trans h2, own_below h3 hb, h4⟩
theorem Bd.below {B b : Nat} {t : List UInt8} {w w' : World} (h : Bd B b t w) (hb : Below w.heap.size w w') : Bd B b t w' := h.imp (fun h => bdAt_below h hb) fun h => bdAt_below h hb
theorem info_u8 : (Tryz.prog.info? 5).map (fun i => (i.zero, i.size, i.bytes)) = some (some (.int .u8 0), 1, 1) := by kernel_rfl
theorem copy_calls (b : Nat) (p v : Value) (w : World) (hbk : w.heap[b]? = some (.cells #[p, v] 115 (0, 0))) (hp : p = .pointer none ∨ p = .pointer (some ⟨b, 0, none⟩)) :
    Calls Tryz.prog 127 #[.pointer (some ⟨b, 0, none⟩)] w fun e w' => e = .returned (.tuple #[]) ∧ w'.heap[b]? = some (.cells #[.pointer (some ⟨b, 0, none⟩), v] 115 (0, 0)) ∧ Out (fun k => k = b) w w' := by
  rcases hp with rfl | rfl
  · refine (Any.Builder_copyCheck_fresh (ρ := Tryz.lays156_ren) { Tryz.lays156 with } Tryz.Builder_Extra_156.toX72 b w (at_cell hbk 0) (by simp [World.shape?, hbk]; rfl) (at_frozen hbk 0)).mono ?_
    rintro e w' ⟨rfl, rfl⟩
    exact ⟨rfl, at_set hbk 0 _, (Out.refl (fun k => k = b) w).setCell (p := ⟨b, 0, none⟩) (fun _ => rfl) _⟩
  · refine (Any.Builder_copyCheck_used (ρ := Tryz.lays156_ren) { Tryz.lays156 with } Tryz.Builder_Extra_156.toX72 b w (at_cell hbk 0)).mono ?_
    rintro e w' ⟨rfl, rfl⟩
    exact ⟨rfl, hbk, Out.refl _ _⟩
/-- the blocks of a builder -/
def BdS (b : Nat) (w : World) (k : Nat) : Prop := k = b ∨ ∃ p v, w.heap[b]? = some (.cells #[p, v] 115 (0, 0)) ∧ v.ownBlock = some k
theorem Bd.lt {B b : Nat} {t : List UInt8} {w : World} (h : Bd B b t w) {k : Nat} (hk : BdS b w k) : B ≤ k ∧ k < w.heap.size := by
  obtain ⟨p, h1, v, h2, h3, h4⟩ : ∃ p, Lib.BuilderAt 115 5 B b p (Lib.byteCells t) w := by
    rcases h with h | h
    · exact ⟨_, h⟩
    · exact ⟨_, h⟩
  rcases hk with rfl | ⟨p', v', e, hk⟩
  · exact ⟨h1, at_lt h2⟩
  · rw [h2] at e
    have e := Option.some.inj e
    injection e with e1 _ _
    have : v = v' := by injection e1 with e1; injection e1 with _ e1; injection e1
    subst this
    exact World.ownsRow.lt h3 k hk
theorem BdS.same {b : Nat} {w w' : World} (h : w'.heap[b]? = w.heap[b]?) {k : Nat} (hk : BdS b w' k) : BdS b w k := by
  rcases hk with rfl | ⟨p', v', e, hk⟩
  · exact .inl rfl
  · exact .inr ⟨p', v', h ▸ e, hk⟩
set_option maxHeartbeats 2000000 in
set_option maxRecDepth 100000 in
theorem wstr_calls (B b : Nat) (acc : List UInt8) (s : ByteArray) (w : World) (h : Bd B b acc w) (hlen : acc.length + s.size ≤ 140737488355328) (hB : B ≤ w.heap.size) :
    Calls Tryz.prog 91 #[.pointer (some ⟨b, 0, none⟩), .string s] w fun e w' => e = .returned (.tuple #[.int .i64 s.size, .nilIface]) ∧ Bd B b (acc ++ s.data.toList) w' ∧ Below B w w' ∧ Out (BdS b w) w w' := by
  obtain ⟨i0, hi, hz0, hz1, hz2⟩ := info_parts info_u8
  obtain ⟨p, hp, hBb, v, hbk, hown, hne⟩ : ∃ p, (p = .pointer none ∨ p = .pointer (some ⟨b, 0, none⟩)) ∧ Lib.BuilderAt 115 5 B b p (Lib.byteCells acc) w := by
    rcases h with h | h
    · exact ⟨_, .inl rfl, h⟩
    · exact ⟨_, .inr rfl, h⟩
  have HC := Lib.hid (copy_calls b p v w hbk hp)
  have HOWN := Lib.hid hown
  have HBK := Lib.hid hbk
  clear hown h hp hbk
  go_enter Tryz.func91, Tryz.ntmps91
  go_wp2_with (go_at_call 127; refine HC.out.mono ?_)
  rintro e w1 ⟨rfl, hb1, ho1⟩
  have own1 := own_out HOWN.out ho1 fun k e hk => hne (hk ▸ e)
  have c1 : w1.cell? ⟨b, 1, none⟩ = some v := at_cell hb1 1
  have s1 := ho1.size
  have HB1 := Lib.hid hb1
  have HO1 := Lib.hid ho1
  clear hb1 ho1
  go_wp2_with (at_builtin; refine Lib.wpList_append_own_string _ rfl _ _ 91 9 rfl B 5 i0 Tryz.underlying91 Tryz.underlying9 hi hz0 hz1 hz2 _ _ _ rfl own1 s rfl ?c3 ?c4 ?c5 ?_)
  case c3 => rw [Lib.byteCells_length]; unfold maxLen; omega
  case c4 => rw [Lib.byteCells_length]; omega
  case c5 => omega
  intro v' w2 hown' hgrow _
  have hb2 : w2.heap[b]? = some (.cells #[.pointer (some ⟨b, 0, none⟩), v] 115 (0, 0)) := by
    rw [hgrow.block b (at_lt HB1.out) (fun e => hne e.symm)]
    exact HB1.out
  have d1 : w2.cell? ⟨b, 1, none⟩ = some v := at_cell hb2 1
  have f1 : w2.frozen? ⟨b, 1, none⟩ = false := at_frozen hb2 1
  obtain ⟨ao, n', cap, rfl⟩ : ∃ ao n' cap, v' = .slice ao n' cap := by
    rcases hown'.2 with ⟨hv, _⟩ | ⟨g, cap, cur, hv, _⟩
    · exact ⟨_, _, _, hv⟩
    · exact ⟨_, _, _, hv⟩
  have HG := Lib.hid hgrow
  have HW := Lib.hid hown'
  have HB2 := Lib.hid hb2
  clear hgrow hown' hb2
  go_wp2
  go_ret2
  have OO : Out (BdS b w) w (w2.setCell ⟨b, 1, none⟩ (.slice ao n' cap)) :=
    (out_grown (HO1.out.mono (S' := BdS b w) fun k _ e => .inl e) HG.out fun k e _ => .inr ⟨p, v, HBK.out, e⟩).setCell (p := ⟨b, 1, none⟩) (fun _ => .inl rfl) _
  refine ⟨rfl, .inr ?_, OO.below hB fun k hk => ?_, OO⟩
  · rw [show Lib.byteCells (acc ++ s.data.toList) = Lib.byteCells acc ++ Lib.strCells s by rw [Lib.strCells_eq]; simp [Lib.byteCells]]
    exact Lib.BuilderAt.put (T := 115) (e := 5) hBb HB2.out (bs' := Lib.byteCells acc ++ Lib.strCells s) (by simpa [Lib.strCells_length] using HW.out) (by decide)
  · rcases hk with rfl | ⟨p', v', e, hk⟩
    · exact hBb
    · rw [HBK.out] at e
      have e := Option.some.inj e
      injection e with e1 _ _
      have : v = v' := by injection e1 with e1; injection e1 with _ e1; injection e1
      subst this
      exact (World.ownsRow.lt HOWN.out k hk).1
theorem repeat_two (d : Nat) (hd : d ≤ 4) (w : World) : Calls Tryz.prog 89 #[.string ⟨#[32, 32]⟩, .int .i64 d] w fun e w' => e = .returned (.string ⟨(ind d).toArray⟩) ∧ Below w.heap.size w w' :=
  Tryz.strings_Repeat ⟨#[32, 32]⟩ d w (by omega) (by rw [show (⟨#[32, 32]⟩ : ByteArray).size = 2 from rfl]; omega)
theorem list_app (a b : ByteArray) : (a ++ b).data.toList = a.data.toList ++ b.data.toList := by simp [ByteArray.data_append]
theorem size_list (s : ByteArray) : s.data.toList.length = s.size := Array.length_toList
theorem is_some {T R L : Option (List UInt8)} {tk u : List UInt8} (h : L = (T.bind fun t => R.map fun r => t ++ r).map fun r => tk ++ r) (e : T = some u) : L = R.map fun r => (tk ++ u) ++ r := by subst e; cases R <;> simp [h]
theorem is_none {T R L : Option (List UInt8)} {tk : List UInt8} (h : L = (T.bind fun t => R.map fun r => t ++ r).map fun r => tk ++ r) (e : T = none) : L = none := by subst e; simpa using h

/-- where write stands -/
structure WrAt (w0 w wr : World) (b d : Nat) (acc : List UInt8) (l : List Nd) (k : Nat) (tk : List UInt8) : Prop where
  base : Below w0.heap.size w0 wr
  below : Below w0.heap.size w wr
  bd : Bd w0.heap.size b (acc ++ tk) wr
  is : txtL d l = (txtL d (l.drop k)).map fun r => tk ++ r
  room : acc.length + tk.length + wtL (l.drop k) ≤ 549755813888

def WrPost (w0 w : World) (b d : Nat) (acc : List UInt8) (l : List Nd) (e : Ending) (w' : World) : Prop :=
  e = .returned (.bool (txtL d l).isSome) ∧ Below w0.heap.size w w' ∧ ∀ t, txtL d l = some t → Bd w0.heap.size b (acc ++ t) w'

set_option maxRecDepth 100000 in
set_option maxHeartbeats 4000000 in
theorem write_calls : ∀ (s : Nat) (l : List Nd) (d b : Nat) (dv : Int) (acc : List UInt8) (p : Option Addr) (n c : Nat) (w0 w : World), SizeOf.sizeOf l = s → n = l.length → dv = d → d ≤ 4 → Sl w0 (.slice p n c) l →
    Below w0.heap.size w0 w → Bd w0.heap.size b acc w → acc.length + wtL l ≤ 549755813888 →
    Calls Tryz.prog 54 #[.pointer (some ⟨b, 0, none⟩), .slice p n c, .int .i64 dv] w (WrPost w0 w b d acc l) := by
  intro s
  induction s using Nat.strongRecOn with
  | ind s ih =>
  intro l d b dv acc p n c w0 w hs hn hdv hd h1 hB hbd hroom
  subst hdv
  have IH := Lib.hid fun (x : List Nd) (d : Nat) (dv : Int) (acc : List UInt8) (p : Option Addr) (n c : Nat) (w : World) (hlt : SizeOf.sizeOf x < SizeOf.sizeOf l) (hn : n = x.length) (hdv : dv = d) (hd : d ≤ 4) (h : Sl w0 (.slice p n c) x) hB hbd hr => ih _ (hs ▸ hlt) x d b dv acc p n c w0 w rfl hn hdv hd h hB hbd hr
  have H1 := Lib.hid h1
  obtain ⟨_, _, hv, hc1, hm1⟩ := h1.slice
  injection hv with e1 z1 e2
  subst e1 e2
  clear z1
  rw [← hn] at hc1
  unfold maxLen at hm1
  have HN := Lib.hid hn
  have HBD := Lib.hid hbd
  have HB := Lib.hid hB
  have HR := Lib.hid hroom
  have hBs := hB.size
  clear h1 ih hs hn hB hbd hroom
  go_enter Tryz.func54, Tryz.ntmps54
  go_wp2_with fail
  refine (repeat_two d hd _).mono ?_
  rintro e w1 ⟨rfl, hb1⟩
  have HIL := Lib.hid (ind_len d)
  obtain ⟨I, hI⟩ : ∃ I : ByteArray, I = ⟨(ind d).toArray⟩ := ⟨_, rfl⟩
  have hIs : I.size ≤ 8 := by rw [hI]; show (ind d).toArray.size ≤ 8; rw [List.size_toArray, HIL.out]; omega
  have HI := Lib.hid (show I.data.toList = ind d by rw [hI])
  rw [← hI]
  clear hI
  have W1 := Lib.hid (show WrAt w0 w w1 b d acc l 0 [] from ⟨HB.out.trans (hb1.mono hBs), hb1.mono hBs, by rw [List.append_nil]; exact HBD.out.below hb1, by simp, by simpa using HR.out⟩)
  clear hb1
  go_wp2_with fail
  go_loopw [16] (fun i wr => ∃ (k : Nat) (tk : List UInt8), k ≤ n ∧ i = .int .i64 k ∧ WrAt w0 w wr b d acc l k tk) (fun i _ => n - (intOf i).toNat)
  case atStart => exact ⟨0, [], by omega, rfl, W1.out⟩
  case round =>
    obtain ⟨k, tk, hk, rfl, C⟩ := hrel
    rename World => wr
    have HC := Lib.hid C
    have hsz := C.base.size
    clear C
    rcases Nat.lt_or_eq_of_le hk with hlt | rfl
    · have hl1 : k < l.length := by rw [← HN.out]; exact hlt
      obtain ⟨g, pa, ca, pl, cl, rfl, hg, ⟨c0, c1, c2, c3, c4⟩, ha, hl⟩ := H1.out.at_ hl1
      have hb := HC.out.base
      have x0 := (hb.cell (p := ⟨g, k * 5, none⟩) hg).trans c0
      have x1 := (hb.cell (p := ⟨g, k * 5 + 1, none⟩) hg).trans c1
      have x2 := (hb.cell (p := ⟨g, k * 5 + 2, none⟩) hg).trans c2
      have x3 := (hb.cell (p := ⟨g, k * 5 + 3, none⟩) hg).trans c3
      have x4 := (hb.cell (p := ⟨g, k * 5 + 4, none⟩) hg).trans c4
      have lg : g < wr.heap.size := Nat.lt_of_lt_of_le hg hsz
      clear c0 c1 c2 c3 c4 hb
      have HLT := Lib.hid (list_lt_at hl1)
      have his := HC.out.is
      have hrm := HC.out.room
      rw [List.drop_eq_getElem_cons hl1, txtL_cons] at his
      rw [List.drop_eq_getElem_cons hl1, wtL_cons, wt_open] at hrm
      have HIS := Lib.hid his
      clear his
      generalize l[k] = x at *
      have q1 : (k : Int) < (n : Int) := by omega
      have HO := Lib.hid (txtN_open d x)
      have HHL := Lib.hid fun h e => headT_len (k := x.key) (al := x.args) (h := h) e
      have HH := Lib.hid fun w1 (hw : Below w0.heap.size w0 w1) => head_calls x w1 pa pl ca cl (own_below ha hw) (by omega)
      unfold ndv at HH
      have HRM := Lib.hid hrm
      have HSL := Lib.hid hl
      clear hrm hl ha
      have BA := HC.out.base.alloc (show w0.heap.size ≤ wr.heap.size from hsz) (.cells #[.string ⟨x.key.toArray⟩, .slice pa x.args.length ca, .bool x.block, .slice pl x.list.length cl, .int .i64 x.line] 57)
      cases hh : headT x.key x.args with
      | none =>
        have HT := Lib.hid (is_none HIS.out (by rw [HO.out, hh]))
        rw [hh] at HH
        have HHA := Lib.hid (HH.out _ BA)
        clear BA
        go_wp2_with (go_at_call 90; refine HHA.out.mono ?_; rintro e w5 ⟨rfl, hb5⟩; have n5 := (hb5.block _ (by simp)).trans (at_new wr _); obtain ⟨⟨y0, y1, y2, y3, y4⟩, -⟩ := row5 n5; have B5 := Lib.hid ((HC.out.below.alloc hsz _).trans (hb5.mono (by simp; omega))); clear hb5 n5)
        go_ret
        exact ⟨by rw [HT.out]; rfl, B5.out, fun t e => by rw [HT.out] at e; cases e⟩
      | some h =>
        rw [hh] at HH HO
        have HHA := Lib.hid (HH.out _ BA)
        have hhl := HHL.out h hh
        have hHd : (⟨h.toArray⟩ : ByteArray).size ≤ 549755813888 := by
          show h.toArray.size ≤ _
          rw [List.size_toArray]
          have := HRM.out
          omega
        have HD := Lib.hid (show (⟨h.toArray⟩ : ByteArray).data.toList = h from rfl)
        have HDS := Lib.hid (show (⟨h.toArray⟩ : ByteArray).size = h.length from List.size_toArray ..)
        rw [show ((some h : Option (List UInt8)).getD []) = h from rfl, show (some h : Option (List UInt8)).isSome = true from rfl] at HHA
        generalize (⟨h.toArray⟩ : ByteArray) = Hd at *
        have HHL2 := Lib.hid hhl
        clear HH HHL hhl hh BA
        cases hbx : x.block with
        | false =>
          rw [hbx] at HHA
          rw [hbx] at x2
          cases hls : x.list with
          | nil =>
            have HT := Lib.hid (is_some HIS.out (show txtN d x = some (ind d ++ h ++ [59, 10]) by rw [HO.out, hbx, hls]; rfl))
            have HSI := Lib.hid (show (I ++ Hd ++ ⟨#[59, 10]⟩).size = I.size + Hd.size + 2 by rw [ByteArray.size_append, ByteArray.size_append]; rfl)
            have HLI := Lib.hid (show (I ++ Hd ++ ⟨#[59, 10]⟩).data.toList = ind d ++ h ++ [59, 10] by rw [list_app, list_app, HI.out, HD.out])
            rw [hls, List.length_nil] at HHA x3
            go_wp2_with fail
            refine HHA.out.mono ?_
            rintro e w5 ⟨rfl, hb5⟩
            have n5 := (hb5.block _ (by simp)).trans (at_new wr _)
            obtain ⟨⟨y0, y1, y2, y3, y4⟩, -⟩ := row5 n5
            have l5 := at_lt n5
            have hs5 := hb5.size
            rw [show (wr.alloc _).heap.size = wr.heap.size + 1 by simp] at hs5
            have A5 := Lib.hid ((HC.out.base.alloc hsz _).trans (hb5.mono (by simp; omega)))
            have B5 := Lib.hid ((HC.out.below.alloc hsz _).trans (hb5.mono (by simp; omega)))
            have D5 := Lib.hid ((HC.out.bd.below ((Below.refl _ _).alloc (Nat.le_refl _) _)).below hb5)
            clear hb5 n5
            go_wp2_with fail
            refine (wstr_calls w0.heap.size b (acc ++ tk) _ w5 D5.out (by rw [HSI.out, List.length_append]; have := HRM.out; omega) (by omega)).mono ?_
            rintro e w6 ⟨rfl, hd6, hb6, -⟩
            have W6 := Lib.hid (show WrAt w0 w w6 b d acc l (k + 1) (tk ++ (ind d ++ h ++ [59, 10])) from
              ⟨A5.out.trans hb6, B5.out.trans hb6, by rw [HLI.out, List.append_assoc] at hd6; exact hd6, HT.out, by
                have := HRM.out; have := HHL2.out; have := HIL.out
                simp only [List.length_append, List.length_cons, List.length_nil] at *
                omega⟩)
            clear hd6 hb6
            go_wp2_with fail
            go_roundw
            case rel => exact ⟨k + 1, _, by omega, by go_num, W6.out⟩
            case measure => simp [intOf]; omega
          | cons y ys =>
            have HT := Lib.hid (is_none HIS.out (by rw [HO.out, hbx, hls]; rfl))
            rw [hls] at HHA x3
            have q4 : (0 : Int) < ((y :: ys).length : Int) := by rw [List.length_cons]; omega
            generalize (y :: ys).length = m at *
            go_wp2_with (go_at_call 90; refine HHA.out.mono ?_; rintro e w5 ⟨rfl, hb5⟩; have n5 := (hb5.block _ (by simp)).trans (at_new wr _); obtain ⟨⟨y0, y1, y2, y3, y4⟩, -⟩ := row5 n5; have B5 := Lib.hid ((HC.out.below.alloc hsz _).trans (hb5.mono (by simp; omega))); clear hb5 n5)
            go_ret
            exact ⟨by rw [HT.out]; rfl, B5.out, fun t e => by rw [HT.out] at e; cases e⟩
        | true =>
          rw [hbx] at HHA
          rw [hbx] at x2
          by_cases h4 : d = 4
          · have HT := Lib.hid (is_none HIS.out (by rw [HO.out, hbx]; exact (if_pos rfl).trans (if_pos h4)))
            have b4 : ((d : Int) == 4) = true := by simp [h4]
            have HH4 := Lib.hid h4
            clear h4
            go_wp2_with (go_at_call 90; refine HHA.out.mono ?_; rintro e w5 ⟨rfl, hb5⟩; have n5 := (hb5.block _ (by simp)).trans (at_new wr _); obtain ⟨⟨y0, y1, y2, y3, y4⟩, -⟩ := row5 n5; have B5 := Lib.hid ((HC.out.below.alloc hsz _).trans (hb5.mono (by simp; omega))); clear hb5 n5)
            go_ret
            exact ⟨by rw [HT.out]; rfl, B5.out, fun t e => by rw [HT.out] at e; cases e⟩
          · have b4 : ((d : Int) == 4) = false := by simp; omega
            have HO2 := Lib.hid (show txtN d x = (txtL (d + 1) x.list).map fun t => ind d ++ h ++ [32, 123, 10] ++ t ++ (ind d ++ [125, 10]) by rw [HO.out, hbx]; exact (if_pos rfl).trans (if_neg h4))
            have HSI := Lib.hid (show (I ++ Hd ++ ⟨#[32, 123, 10]⟩).size = I.size + Hd.size + 3 by rw [ByteArray.size_append, ByteArray.size_append]; rfl)
            have HLI := Lib.hid (show (I ++ Hd ++ ⟨#[32, 123, 10]⟩).data.toList = ind d ++ h ++ [32, 123, 10] by rw [list_app, list_app, HI.out, HD.out])
            have HSJ := Lib.hid (show (I ++ ⟨#[125, 10]⟩).size = I.size + 2 by rw [ByteArray.size_append]; rfl)
            have HLJ := Lib.hid (show (I ++ ⟨#[125, 10]⟩).data.toList = ind d ++ [125, 10] by rw [list_app, HI.out])
            have hd3 : d + 1 ≤ 4 := by omega
            have HTL := Lib.hid (txt_len _ x.list (d + 1) · rfl hd3)
            clear h4
            go_wp2_with fail
            refine HHA.out.mono ?_
            rintro e w5 ⟨rfl, hb5⟩
            have n5 := (hb5.block _ (by simp)).trans (at_new wr _)
            obtain ⟨⟨y0, y1, y2, y3, y4⟩, -⟩ := row5 n5
            have l5 := at_lt n5
            have N5 := Lib.hid n5
            have hs5 := hb5.size
            rw [show (wr.alloc _).heap.size = wr.heap.size + 1 by simp] at hs5
            have A5 := Lib.hid ((HC.out.base.alloc hsz _).trans (hb5.mono (by simp; omega)))
            have B5 := Lib.hid ((HC.out.below.alloc hsz _).trans (hb5.mono (by simp; omega)))
            have D5 := Lib.hid ((HC.out.bd.below ((Below.refl _ _).alloc (Nat.le_refl _) _)).below hb5)
            have SB5 := Lib.hid (show ∀ k, BdS b w5 k → k < wr.heap.size from fun k hk => (HC.out.bd.lt (BdS.same ((hb5.block b (by have := (HC.out.bd.lt (.inl rfl)).2; simp; omega)).trans (Below.heap_alloc _ _ _ (HC.out.bd.lt (.inl rfl)).2)) hk)).2)
            clear hb5 n5
            go_wp2_with fail
            refine (wstr_calls w0.heap.size b (acc ++ tk) _ w5 D5.out (by rw [HSI.out, List.length_append]; have := HRM.out; omega) (by omega)).mono ?_
            rintro e w6 ⟨rfl, hd6, hb6, ho6⟩
            have n6 := ho6.at_ N5.out fun hk => Nat.lt_irrefl _ (SB5.out _ hk)
            obtain ⟨⟨z0, z1, z2, z3, z4⟩, -⟩ := row5 n6
            have l6 := at_lt n6
            have A6 := A5.out.trans hb6
            have B6 := Lib.hid (B5.out.trans hb6)
            have hs6 := A6.size
            have HK := Lib.hid (IH.out x.list (d + 1) ((d : Int) + 1) (acc ++ tk ++ (ind d ++ h ++ [32, 123, 10])) pl _ cl w6 HLT.out rfl (by simp) hd3 HSL.out A6 (by rw [HLI.out] at hd6; exact hd6) (by
              have := HRM.out; have := HHL2.out; have := HIL.out
              simp only [List.length_append, List.length_cons, List.length_nil] at *
              omega))
            have HA6 := Lib.hid A6
            clear hd6 hb6 ho6 n6 A6 y0 y1 y2 y3 y4
            unfold WrPost at HK
            cases hx : txtL (d + 1) x.list with
            | none =>
              rw [hx] at HK
              have HT := Lib.hid (is_none HIS.out (by rw [HO2.out, hx]; rfl))
              go_wp2_with (go_at_call 54; refine HK.out.mono ?_; rintro e w7 ⟨rfl, hb7, -⟩)
              go_ret
              exact ⟨by rw [HT.out]; rfl, B6.out.trans hb7, fun t e => by rw [HT.out] at e; cases e⟩
            | some t =>
              have hlt := HTL.out t hx
              rw [hx] at HK
              have HT := Lib.hid (is_some HIS.out (show txtN d x = some (ind d ++ h ++ [32, 123, 10] ++ t ++ (ind d ++ [125, 10])) by rw [HO2.out, hx]; rfl))
              go_wp2_with fail
              refine HK.out.mono ?_
              rintro e w7 ⟨rfl, hb7, hd7⟩
              have D7 := Lib.hid (hd7 t rfl)
              have A7 := Lib.hid (HA6.out.trans hb7)
              have B7 := Lib.hid (B6.out.trans hb7)
              have hs7 := A7.out.size
              clear hb7 hd7
              go_wp2_with fail
              refine (wstr_calls w0.heap.size b _ _ w7 D7.out (by
                have := HRM.out; have := HHL2.out; have := HIL.out; have := HSJ.out
                rw [HSJ.out]
                simp only [List.length_append, List.length_cons, List.length_nil] at *
                omega) (by omega)).mono ?_
              rintro e w8 ⟨rfl, hd8, hb8, -⟩
              have W8 := Lib.hid (show WrAt w0 w w8 b d acc l (k + 1) (tk ++ (ind d ++ h ++ [32, 123, 10] ++ t ++ (ind d ++ [125, 10]))) from
                ⟨A7.out.trans hb8, B7.out.trans hb8, by rw [HLJ.out] at hd8; simpa [List.append_assoc] using hd8, HT.out, by
                  have := HRM.out; have := HHL2.out; have := HIL.out
                  simp only [List.length_append, List.length_cons, List.length_nil] at *
                  omega⟩)
              clear hd8 hb8
              go_wp2_with fail
              go_roundw
              case rel => exact ⟨k + 1, _, by omega, by go_num, W8.out⟩
              case measure => simp [intOf]; omega
    · have HT := Lib.hid (show txtL d l = some tk by
        rw [HC.out.is, List.drop_eq_nil_of_le (by have := HN.out; omega), txtL_nil]; simp)
      go_wp2_with fail
      go_ret
      exact ⟨by rw [HT.out]; rfl, HC.out.below, fun t e => by rw [HT.out] at e; cases e; exact HC.out.bd⟩

def prC : Option (List UInt8) → Int
  | some _ => 0
  | none => 3
def prT : Option (List UInt8) → List UInt8
  | some t => t
  | none => []
set_option maxRecDepth 100000 in
set_option maxHeartbeats 4000000 in
/-- Print: statements as text, or that there is none -/
theorem print_calls (l : List Nd) (p : Option Addr) (n c : Nat) (w : World) (hn : n = l.length) (h : Sl w (.slice p n c) l) (hr : wtL l ≤ 549755813888) :
    Calls Tryz.prog 27 #[.slice p n c] w fun e w' => e = .returned (.tuple #[.string ⟨(prT (txtL 0 l)).toArray⟩, .int .i64 (prC (txtL 0 l))]) ∧ Below w.heap.size w w' := by
  have HB := Lib.hid (Lib.fresh_isBuilder 115 5 w)
  have HW := Lib.hid (write_calls _ l 0 w.heap.size 0 [] p n c w (w.alloc (.cells #[.pointer none, .slice none 0 0] 115)) rfl hn rfl (by omega) h ((Below.refl _ _).alloc (Nat.le_refl _) _) HB.out (by simpa using hr))
  unfold WrPost at HW
  clear h hr hn
  go_enter Tryz.func27, Tryz.ntmps27
  go_wp2_with fail
  refine HW.out.mono ?_
  rintro e w1 ⟨rfl, hb1, hd1⟩
  have B1 := Lib.hid (((Below.refl w.heap.size w).alloc (Nat.le_refl _) (.cells #[.pointer none, .slice none 0 0] 115)).trans hb1)
  have hs1 := B1.out.size
  clear hb1
  cases hx : txtL 0 l with
  | none =>
    have HX := Lib.hid hx
    clear hx
    go_wp2_with fail
    go_ret2
    exact ⟨by rw [HX.out]; rfl, B1.out⟩
  | some t =>
    have D1 := Lib.hid (hd1 t hx)
    have HX := Lib.hid hx
    clear hd1 hx
    rw [List.nil_append] at D1
    go_wp2_with (go_at_call 55; refine (Tryz.Builder_String_any w.heap.size w.heap.size t w1 D1.out (by omega)).mono ?_; rintro e w2 ⟨rfl, hb2⟩)
    go_ret2
    exact ⟨by rw [HX.out]; rfl, B1.out.trans hb2⟩
end Go.Proofs.YtajfdachpdkbcaaGreatDoor.Tree
end

section
namespace Go.Proofs.YtajfdachpdkbcaaGreatDoor.Conf
open Go.RowKit Go.Proofs.YtajfdachpdkbcaaGreatDoor.Own Go.Proofs.YtajfdachpdkbcaaGreatDoor.Rw Go.Proofs.YtajfdachpdkbcaaGreatDoor.Tree
open Go.Proofs.YtajfdachpdkbcaaGreatDoor.Digit (dec)

theorem brkNs_at {bs : List Bs} {k : Nat} (h : k < bs.length) : brkNs k (bs.drop k) = (if bs[k] = [] then brkNs (k + 1) (bs.drop (k + 1)) else flat1 sBreak [dec k, bs[k]] :: brkNs (k + 1) (bs.drop (k + 1))) := by
  rw [List.drop_eq_getElem_cons h, brkNs]
theorem strs_arr {bs : List Bs} {k : Nat} (h : k < bs.length) : (strs bs).toArray[k]? = some (.string ⟨bs[k].toArray⟩) := by
  rw [List.getElem?_toArray, strs_at h]; rfl
theorem idx_run {bs : List Bs} {k : Nat} {v : Value} (h : (k : Int) < 10) (hat : (strs bs).toArray[k]? = some v) (W : World) : (Instr.index 27 (.agg (strs bs).toArray) (.int .i64 k)).run Tryz.prog W = .ok v W := by
  have hat2 : (strs bs)[k]? = some v := by rwa [List.getElem?_toArray] at hat
  have h2 : (0 : Int) ≤ (k : Int) := by omega
  unfold Instr.index
  simp [go_sem, hat2, h2]
  omega
theorem two_new {B : Nat} (w : World) (a b : Bs) (hB : B ≤ w.heap.size) : (w.alloc (.cells #[.string ⟨a.toArray⟩, .string ⟨b.toArray⟩] 9)).ownsRow B 9 1 (.slice (some ⟨w.heap.size, 0, none⟩) 2 2) 2 (strs [a, b]) :=
  row_new w [a, b] 2 rfl hB (by simp) _ rfl

theorem strs_one (ts : List Bs) : ∀ u ∈ strs ts, u.oneCell' = true := by
  intro u hu
  obtain ⟨t, _, rfl⟩ := List.mem_map.1 hu
  rfl
theorem tx_add {w : World} {p : Option Addr} {c : Nat} {ts : List Bs} (h : Texts w p c ts) {ad : Addr} (e : p = some ad) {j : Nat} {u : Value} (hu : (strs ts)[j]? = some u) : w.cell? (ad.add j) = some u := by
  rcases h.row.cells with h0 | ⟨b, o, e', hl, k⟩
  · rw [h0] at hu; cases hu
  · rw [e] at e'
    cases e'
    have := k j u hu
    rwa [show (⟨b, o, none⟩ : Addr).add j = ⟨b, o + j, none⟩ by cases j <;> simp [Addr.add]]
theorem lvl_tx {w : World} {g : Nat} (h : w.heap[g]? = some (.cells lvlArr 9 (0, 0))) : Texts w (some ⟨g, 0, none⟩) 4 [sNone, sLook, sHand, sChief] :=
  ⟨⟨by decide, by decide, .inr ⟨g, 0, rfl, at_lt h, fun i x hx => by
    rw [at_cell h]
    match i, hx with
    | 0, hx => exact hx
    | 1, hx => exact hx
    | 2, hx => exact hx
    | 3, hx => exact hx
    | i + 4, hx => cases hx⟩⟩⟩
theorem lvl_word (n : Int) : wAt [sNone, sLook, sHand, sChief] n = lvlW n := by
  by_cases h1 : n < 0
  · rw [wAt_neg h1]
    unfold lvlW
    rw [if_neg (by omega), if_neg (by omega), if_neg (by omega), if_neg (by omega)]
  · obtain ⟨k, rfl⟩ : ∃ k : Nat, n = k := ⟨n.toNat, by omega⟩
    unfold lvlW
    match k with
    | 0 => rfl
    | 1 => rfl
    | 2 => rfl
    | 3 => rfl
    | k + 4 => rw [if_neg (by omega), if_neg (by omega), if_neg (by omega), if_neg (by omega)]; exact wAt_far (by simp)
theorem usr_at {w : World} {p : Option Addr} {c n : Nat} {L : List (Bs × Bs)} (h : Rd w 2 p c n (L.flatMap urv)) (hn : n = L.length) {i : Nat} (hi : i < L.length) :
    ∃ b o, p = some ⟨b, o, none⟩ ∧ b < w.heap.size ∧ w.cell? ⟨b, o + i * 2, none⟩ = some (.string ⟨L[i].1.toArray⟩) ∧ w.cell? ⟨b, o + i * 2 + 1, none⟩ = some (.string ⟨L[i].2.toArray⟩) := by
  rcases h.cells with h0 | ⟨b, o, e, hb, k⟩
  · omega
  · exact ⟨b, o, e, hb, k _ _ (by have := fm_get urv_len hi 0 (by decide); rwa [Nat.add_zero] at this), by rw [Nat.add_assoc]; exact k _ _ (fm_get urv_len hi 1 (by decide))⟩
theorem acc_at {w : World} {p : Option Addr} {c n : Nat} {L : List (Bs × Bs × Int)} (h : Rd w 3 p c n (L.flatMap acv)) (hn : n = L.length) {i : Nat} (hi : i < L.length) :
    ∃ b o, p = some ⟨b, o, none⟩ ∧ b < w.heap.size ∧ w.cell? ⟨b, o + i * 3, none⟩ = some (.string ⟨L[i].1.toArray⟩) ∧ w.cell? ⟨b, o + i * 3 + 1, none⟩ = some (.string ⟨L[i].2.1.toArray⟩) ∧ w.cell? ⟨b, o + i * 3 + 2, none⟩ = some (.int .i64 L[i].2.2) := by
  rcases h.cells with h0 | ⟨b, o, e, hb, k⟩
  · omega
  · exact ⟨b, o, e, hb, k _ _ (by have := fm_get acv_len hi 0 (by decide); rwa [Nat.add_zero] at this), by rw [Nat.add_assoc]; exact k _ _ (fm_get acv_len hi 1 (by decide)), by rw [Nat.add_assoc]; exact k _ _ (fm_get acv_len hi 2 (by decide))⟩

set_option maxRecDepth 100000 in
set_option maxHeartbeats 8000000 in
theorem print_conf (c : Cf) (v0 v1 v2 v3 : Value) (b0 b1 b2 b3 b4 b5 b6 b7 b8 b9 : Bs) (w : World) (hr : CfR w v0 v1 v2 v3 c) (ht : c.brks = [b0, b1, b2, b3, b4, b5, b6, b7, b8, b9]) (hz : Szd c) :
    Calls Tryz.prog 8 #[confV v0 v1 v2 v3 b0 b1 b2 b3 b4 b5 b6 b7 b8 b9] w fun e w' => e = .returned (.string ⟨((printT c).getD []).toArray⟩) ∧ Below w.heap.size w w' := by
  have HR := Lib.hid hr
  obtain ⟨p0, k0, rfl, r0⟩ := hr.cons
  obtain ⟨p1, k1, gs, rfl, r1, -⟩ := hr.grps
  obtain ⟨p2, k2, rfl, r2⟩ := hr.usrs
  obtain ⟨p3, k3, rfl, r3⟩ := hr.accs
  have HZ := Lib.hid hz
  have HT := Lib.hid ht
  clear hr r0 r1 r2 r3 hz ht
  obtain ⟨i0, hi, hz0, hz1, hz2⟩ := info_parts info_node
  have NB := Lib.hid (at_new w (.cells #[.slice p0 c.cons.length k0, .slice p1 c.grps.length k1, .slice p2 c.usrs.length k2, .slice p3 c.accs.length k3, .string ⟨b0.toArray⟩, .string ⟨b1.toArray⟩, .string ⟨b2.toArray⟩, .string ⟨b3.toArray⟩, .string ⟨b4.toArray⟩, .string ⟨b5.toArray⟩, .string ⟨b6.toArray⟩, .string ⟨b7.toArray⟩, .string ⟨b8.toArray⟩, .string ⟨b9.toArray⟩] 29))
  have BB := Lib.hid ((Below.refl w.heap.size w).alloc (Nat.le_refl _) (.cells #[.slice p0 c.cons.length k0, .slice p1 c.grps.length k1, .slice p2 c.usrs.length k2, .slice p3 c.accs.length k3, .string ⟨b0.toArray⟩, .string ⟨b1.toArray⟩, .string ⟨b2.toArray⟩, .string ⟨b3.toArray⟩, .string ⟨b4.toArray⟩, .string ⟨b5.toArray⟩, .string ⟨b6.toArray⟩, .string ⟨b7.toArray⟩, .string ⟨b8.toArray⟩, .string ⟨b9.toArray⟩] 29))
  unfold confV
  go_enter Tryz.func8, Tryz.ntmps8
  go_wp2_with fail
  rw [show (#[.string ⟨b0.toArray⟩, .string ⟨b1.toArray⟩, .string ⟨b2.toArray⟩, .string ⟨b3.toArray⟩, .string ⟨b4.toArray⟩, .string ⟨b5.toArray⟩, .string ⟨b6.toArray⟩, .string ⟨b7.toArray⟩, .string ⟨b8.toArray⟩, .string ⟨b9.toArray⟩] : Array Value) = (strs c.brks).toArray by rw [HT.out]; rfl]
  generalize hw0 : w.alloc (.cells #[.slice p0 c.cons.length k0, .slice p1 c.grps.length k1, .slice p2 c.usrs.length k2, .slice p3 c.accs.length k3, .string ⟨b0.toArray⟩, .string ⟨b1.toArray⟩, .string ⟨b2.toArray⟩, .string ⟨b3.toArray⟩, .string ⟨b4.toArray⟩, .string ⟨b5.toArray⟩, .string ⟨b6.toArray⟩, .string ⟨b7.toArray⟩, .string ⟨b8.toArray⟩, .string ⟨b9.toArray⟩] 29) = w0 at *
  have HW0 := Lib.hid (show w0.heap.size = w.heap.size + 1 by rw [← hw0]; simp)
  clear hw0
  have S0 : Hid (PrAt w0.heap.size w0 w0 (.slice none 0 0) []) := Lib.hid ⟨Fo.nil _ _, Below.refl _ _, Nat.zero_le _, Nat.le_refl _⟩
  go_loopw [3, 18] (fun lv i wr => ∃ (k : Nat) (ns : List Nd), k ≤ 10 ∧ i = .int .i64 k ∧ PrAt w0.heap.size w0 wr lv ns ∧ ns ++ brkNs k (c.brks.drop k) = brkNs 0 c.brks ∧ ns.length ≤ k) (fun _ i _ => 10 - (intOf i).toNat)
  case atStart => exact ⟨0, [], by omega, rfl, S0.out, rfl, Nat.le_refl _⟩
  case round =>
    obtain ⟨k, ns, hk, rfl, C, hns, hlen⟩ := hrel
    rename World => wr
    have HC := Lib.hid C
    have HNS := Lib.hid hns
    obtain ⟨xs, hown, hls⟩ := C.fo
    have HOWN := Lib.hid hown
    have HLS := Lib.hid hls
    have hsz := C.base
    obtain ⟨vp, vc, rfl, -⟩ := own_slice hown
    clear C hns hown hls
    rcases Nat.lt_or_eq_of_le hk with hlt | rfl
    · have hl1 : k < c.brks.length := by rw [HT.out]; exact hlt
      have hat := strs_arr hl1
      have HB := Lib.hid (brkNs_at hl1)
      have q1 : (k : Int) < 10 := by omega
      generalize c.brks[k] = t at *
      clear hl1
      by_cases he : t = []
      · subst he
        have hix := idx_run q1 hat
        have HB2 := Lib.hid (show brkNs k (c.brks.drop k) = brkNs (k + 1) (c.brks.drop (k + 1)) by rw [HB.out, if_pos rfl])
        clear hat HB
        go_wp2_with fail
        go_roundw
        case rel => exact ⟨k + 1, ns, by omega, by go_num, HC.out, by rw [← HNS.out, HB2.out], by omega⟩
        case measure => simp [intOf]; omega
      · have bb1 : (t == []) = false := by simpa using he
        have bb2 : ¬ t.toArray = #[] := by simpa using he
        have hix := idx_run q1 hat
        have HB2 := Lib.hid (show brkNs k (c.brks.drop k) = flat1 sBreak [dec k, t] :: brkNs (k + 1) (c.brks.drop (k + 1)) by rw [HB.out, if_neg he])
        clear hat HB he
        go_wp2_with fail
        refine (Go.Proofs.YtajfdachpdkbcaaGreatDoor.Digit.put_calls (k : Int) (by omega) (by omega) _).mono ?_
        rintro e w5 ⟨rfl, hb5⟩
        have HB5 := Lib.hid hb5
        clear hb5
        have HPL := Lib.hid (plain_calls sBreak)
        unfold plainV at HPL
        go_wp2_with fail
        refine (HPL.out _ _ _ _).mono ?_
        rintro e w6 ⟨rfl, hb6⟩
        have hs5 := HB5.out.size
        have B56 := Lib.hid (HB5.out.trans ((((Below.refl w5.heap.size w5).alloc (Nat.le_refl _) _).trans (hb6.mono (by simp))).mono hs5))
        have HNO : Hid (No wr.heap.size w6 [str sBreak, .slice (some ⟨w5.heap.size, 0, none⟩) 2 2, .bool false, .slice none 0 0, .int .i64 0] (flat1 sBreak [dec (k : Int), t])) := Lib.hid (No.mk (own_below (two_new w5 (dec (k : Int)) t hs5) hb6) (Fo.nil _ _))
        clear hb6 HPL
        have OW := Lib.hid (own_below HOWN.out B56.out)
        have hone := Lib.hid (Ls.one HNO.out)
        have hfw := HC.out.few
        have hs6 := B56.out.size
        unfold str at HNO hone
        go_wp2_with (at_builtin; refine wpList_append_own_at _ rfl (.tmp 24) (.tmp 30) 50 rfl w0.heap.size 57 i0 _ 5 80 Tryz.underlying50 hi hz0 hz1 hz2 rfl (by decide) _ _ _ rfl (World.ownsRow.alloc OW.out _) _ 1 1 _ rfl rfl (five_new _ _ _ _ _ _ _ _ rfl) hone.out (by unfold maxLen; omega) (by omega) (by simp; omega) ?_; intro v' w1 hown1 hgrow1 _ hob; have C1 := Lib.hid (pr_add HC.out HOWN.out HLS.out B56.out HNO.out ((Below.refl _ _).alloc (Nat.le_refl _) _) hown1 hgrow1 hob (by omega)); clear hown1 hgrow1 hob)
        go_roundw
        case rel => exact ⟨k + 1, _, by omega, by go_num, C1.out, by rw [List.append_assoc, ← HNS.out, HB2.out]; rfl, by rw [List.length_append, List.length_singleton]; omega⟩
        case measure => simp [intOf]; omega
    · have HNS2 := Lib.hid (show ns = brkNs 0 c.brks ++ (c.cons.take 0).map conN by
        rw [← HNS.out, List.drop_eq_nil_of_le (by rw [HT.out]; exact Nat.le_refl 10)]; simp [brkNs])
      have NR := Lib.hid ((HC.out.below.block _ (at_lt NB.out)).trans NB.out)
      have c0 := (at_cell NR.out 0 : _ = some (Value.slice p0 c.cons.length k0))
      clear HOWN HLS HNS NR
      rw [show ((10 : Nat) : Int) = 10 from rfl]
      go_wp2_with fail
      go_loopw [3, 36] (fun lv i wr => ∃ (k : Nat) (ns : List Nd), k ≤ c.cons.length ∧ i = .int .i64 k ∧ PrAt w0.heap.size w0 wr lv ns ∧ ns = brkNs 0 c.brks ++ (c.cons.take k).map conN ∧ ns.length ≤ 10 + k) (fun _ i _ => c.cons.length - (intOf i).toNat)
      case atStart => exact ⟨0, ns, by omega, rfl, HC.out, HNS2.out, by omega⟩
      case round =>
        clear HC HNS2 hlen hsz c0
        obtain ⟨k, ns, hk, rfl, C, hns, hlen⟩ := hrel
        rename World => wr
        have HC := Lib.hid C
        have HNS := Lib.hid hns
        obtain ⟨xs, hown, hls⟩ := C.fo
        have HOWN := Lib.hid hown
        have HLS := Lib.hid hls
        have hsz := C.base
        obtain ⟨vp, vc, rfl, -⟩ := own_slice hown
        have BR := Lib.hid (BB.out.trans (C.below.mono (by have := HW0.out; omega)))
        obtain ⟨_, _, hv, r0⟩ := HR.out.cons
        injection hv with z1 _ z2
        subst z1 z2
        have hcL := HZ.out.cons.1
        have hmx := r0.max
        have hcp := r0.cap
        unfold maxLen at hmx
        clear C hns hown hls
        rcases Nat.lt_or_eq_of_le hk with hlt | rfl
        · obtain ⟨g, o, rfl, hg, hkn, hat⟩ := con_at (r0.below BR.out) hlt
          obtain ⟨c0, c1, c2, c3, c4, c5, c6, c7, c8, c9⟩ := hat
          have q1 : (k : Int) < (c.cons.length : Int) := by omega
          have HI := Lib.hid (HZ.out.cons.2 _ (List.getElem_mem hlt)).2.2
          have HTK := Lib.hid (show (c.cons.take (k + 1)).map conN = (c.cons.take k).map conN ++ [conN c.cons[k]] by rw [List.take_succ_eq_append_getElem hlt, List.map_append]; rfl)
          generalize c.cons[k] = y at *
          have N1 := at_new wr (.cells #[.string ⟨y.name.toArray⟩, .int .i64 y.kind, .int .i64 y.lines, .int .i64 y.bytes, .int .i64 y.gens, .int .i64 y.size, .int .i64 y.base, .int .i64 y.cap, .int .i64 y.jit, .string ⟨y.init.toArray⟩] 42)
          have BW := (Below.refl wr.heap.size wr).alloc (Nat.le_refl _) (.cells #[.string ⟨y.name.toArray⟩, .int .i64 y.kind, .int .i64 y.lines, .int .i64 y.bytes, .int .i64 y.gens, .int .i64 y.size, .int .i64 y.base, .int .i64 y.cap, .int .i64 y.jit, .string ⟨y.init.toArray⟩] 42)
          clear r0
          go_wp2_with fail
          refine wp_snoc [40, 41, 42, 43, 44, 45, 46, 47, 48, 3] [.val (.slice vp ns.length vc), .val (.pointer (some ⟨wr.heap.size, 0, none⟩)), .val (.string ⟨y.name.toArray⟩), .row [y.name], .val (cnV y), .fo (setNs y), .agg (conN y), .cell (conN y)] 8 w0.heap.size _ ns (conN y) xs
            (by kernel_rfl) rfl (by kernel_rfl) (by decide) (fun o h => by cases h; rfl) (fun o h => by cases h; rfl) (fun o h => by cases h; rfl) (Reg.mem_of (by kernel_rfl)) (Reg.mem_of (by kernel_rfl)) (Reg.mem_of (by kernel_rfl)) rfl rfl rfl HC.out HOWN.out HLS.out (by omega) BW ?_ ?_
          · intro i o a' w' hi h0 ho hdp hot hb
            have h7 : a'.tmps[7]? = some (.pointer (some ⟨wr.heap.size, 0, none⟩)) := (hot 7 (by decide)).trans rfl
            have NX := (hb.block _ (at_lt N1)).trans N1
            have hsW := hb.size
            have hcc : ∀ j v, (cnv y)[j]? = some v → w'.cell? ⟨wr.heap.size, j, none⟩ = some v := fun j v hj => by rw [at_cell NX, ← hj]; simp [cnv, str]
            have hww : wr.heap.size ≤ w'.heap.size := Nat.le_trans BW.size hb.size
            match i, h0, hi, ho, hdp with
            | 1, _, _, ho, hdp =>
              obtain rfl := Option.some.inj ho
              exact wp_fa0 7 _ rfl h7 ⟨_, rfl, rfl, Below.refl _ _⟩
            | 2, _, _, ho, hdp =>
              obtain rfl := Option.some.inj ho
              obtain ⟨_, h1, rfl⟩ := hdp 1 (Reg.mem_of (by kernel_rfl)) (by decide)
              exact wp_load_str 41 _ _ rfl h1 (hcc 0 _ rfl) ⟨_, rfl, rfl, Below.refl _ _⟩
            | 3, _, _, ho, hdp =>
              obtain rfl := Option.some.inj ho
              obtain ⟨_, h1, rfl⟩ := hdp 2 (Reg.mem_of (by kernel_rfl)) (by decide)
              exact wp_row1 42 _ rfl h1 ⟨_, rfl, ⟨w'.heap.size, rfl, row_new w' _ _ rfl hww (by simp) _ rfl⟩, (Below.refl _ _).alloc (Nat.le_refl _) _⟩
            | 4, _, _, ho, hdp =>
              obtain rfl := Option.some.inj ho
              exact wp_load_con 7 _ y rfl h7 hcc ⟨_, rfl, rfl, Below.refl _ _⟩
            | 5, _, _, ho, hdp =>
              obtain rfl := Option.some.inj ho
              obtain ⟨_, h1, rfl⟩ := hdp 4 (Reg.mem_of (by kernel_rfl)) (by decide)
              refine wp_settings 44 _ _ rfl h1 ((settings_calls y HI.out w').mono ?_)
              rintro e w2 ⟨g, rfl, hfo, hb2⟩
              exact ⟨_, rfl, _, rfl, ⟨⟨g, rfl⟩, hfo.base hww⟩, hb2⟩
            | 6, _, _, ho, hdp =>
              obtain rfl := Option.some.inj ho
              obtain ⟨_, h1, g1, rfl, o1⟩ := hdp 3 (Reg.mem_of (by kernel_rfl)) (by decide)
              obtain ⟨_, h2, ⟨g2, rfl⟩, o2⟩ := hdp 5 (Reg.mem_of (by kernel_rfl)) (by decide)
              exact wp_build 43 45 sConsole _ _ _ _ _ _ _ _ rfl h1 h2 rfl rfl ⟨_, rfl, ⟨_, _, rfl, No.mk o1 o2⟩, Below.refl _ _⟩
            | 7, _, _, ho, hdp =>
              obtain rfl := Option.some.inj ho
              obtain ⟨_, h1, va, vl, rfl, hn⟩ := hdp 6 (Reg.mem_of (by kernel_rfl)) (by decide)
              obtain ⟨⟨p, q, rfl⟩, p', q', rfl⟩ := no_forms hn
              have hb2 : Below w'.heap.size w' (w'.alloc (.cells #[str (conN y).key, .slice p (conN y).args.length q, .bool (conN y).block, .slice p' (conN y).list.length q', .int .i64 (conN y).line] 57)) := (Below.refl _ _).alloc (Nat.le_refl _) _
              exact wp_cell 46 _ _ _ _ _ _ _ _ _ _ _ _ _ _ rfl h1 rfl rfl rfl rfl rfl ⟨_, rfl, ⟨w'.heap.size, _, _, rfl, hww, at_new _ _, hn.below hb2⟩, hb2⟩
          · intro vs w' hvl hP
            match vs, hvl, hP with
            | [x0, x1, x2, x3, x4, x5, x6, x7, x8, x9], _, hP =>
              have C1 := Lib.hid (show PrAt w0.heap.size w0 w' x9 (ns ++ [conN y]) from hP)
              clear hP N1 BW
              simp only [List.zip, List.zipWith, Reg.puts, Act.put]
              go_wp2_with fail
              go_roundw
              case rel => exact ⟨k + 1, _, by omega, by go_num, C1.out, by rw [HNS.out, HTK.out, List.append_assoc], by rw [List.length_append, List.length_singleton]; omega⟩
              case measure => simp [intOf]; omega
        · have HNS2 := Lib.hid (show ns = (brkNs 0 c.brks ++ c.cons.map conN) ++ (c.grps.take 0).map grpN by rw [HNS.out, List.take_length]; simp)
          have NR := Lib.hid ((HC.out.below.block _ (at_lt NB.out)).trans NB.out)
          have c0 := (at_cell NR.out 1 : _ = some (Value.slice p1 c.grps.length k1))
          clear HOWN HLS HNS NR r0
          go_wp2_with fail
          go_loopw [3, 53] (fun lv i wr => ∃ (k : Nat) (ns : List Nd), k ≤ c.grps.length ∧ i = .int .i64 k ∧ PrAt w0.heap.size w0 wr lv ns ∧ ns = (brkNs 0 c.brks ++ c.cons.map conN) ++ (c.grps.take k).map grpN ∧ ns.length ≤ 5000 + k) (fun _ i _ => c.grps.length - (intOf i).toNat)
          case atStart => exact ⟨0, ns, by omega, rfl, HC.out, HNS2.out, by omega⟩
          case round =>
            clear HC HNS2 hlen hsz c0 BR
            obtain ⟨k, ns, hk, rfl, C, hns, hlen⟩ := hrel
            rename World => wr
            have HC := Lib.hid C
            have HNS := Lib.hid hns
            obtain ⟨xs, hown, hls⟩ := C.fo
            have HOWN := Lib.hid hown
            have HLS := Lib.hid hls
            have hsz := C.base
            obtain ⟨vp, vc, rfl, -⟩ := own_slice hown
            have BR := Lib.hid (BB.out.trans (C.below.mono (by have := HW0.out; omega)))
            obtain ⟨_, _, gs, hv, r0, hgs⟩ := HR.out.grps
            injection hv with z1 _ z2
            subst z1 z2
            have hcL := HZ.out.grps.1
            have hmx := r0.max
            have hcp := r0.cap
            unfold maxLen at hmx
            clear C hns hown hls
            rcases Nat.lt_or_eq_of_le hk with hlt | rfl
            · obtain ⟨g, o, pp, cc, rfl, hg, ⟨c0, c1⟩, htx⟩ := grp_at (r0.below BR.out) ((hgs.keep BR.out).up BR.out.size) rfl hlt
              have q1 : (k : Int) < (c.grps.length : Int) := by omega
              have HTK := Lib.hid (show (c.grps.take (k + 1)).map grpN = (c.grps.take k).map grpN ++ [grpN c.grps[k]] by rw [List.take_succ_eq_append_getElem hlt, List.map_append]; rfl)
              obtain ⟨z1, z2, -⟩ := HZ.out.grps.2 _ (List.getElem_mem hlt)
              generalize c.grps[k] = y at *
              obtain ⟨nm, ps⟩ := y
              dsimp only at c0 c1 htx HTK z1 z2
              have HTX := Lib.hid htx
              obtain ⟨j0, hj, jz0, jz1, jz2⟩ := info_parts info_str
              have hw1 : wr.heap.size ≤ (wr.alloc (.cells #[.string ⟨nm.toArray⟩, .slice pp ps.length cc] 65)).heap.size := by simp
              have hr1 := row_new (wr.alloc (.cells #[.string ⟨nm.toArray⟩, .slice pp ps.length cc] 65)) [nm] 1 rfl hw1 (by simp) #[.string ⟨nm.toArray⟩] rfl
              rw [show (wr.alloc (.cells #[.string ⟨nm.toArray⟩, .slice pp ps.length cc] 65)).heap.size = wr.heap.size + 1 by simp] at hr1
              have HR1 := Lib.hid hr1
              clear hr1
              have BW := Lib.hid (((Below.refl wr.heap.size wr).alloc (Nat.le_refl _) (.cells #[.string ⟨nm.toArray⟩, .slice pp ps.length cc] 65)).alloc hw1 (.cells #[.string ⟨nm.toArray⟩] 9))
              have HNE := Lib.hid (fun ad (e : pp = some ad) j u (hu : (strs ps)[j]? = some u) => (show ((wr.alloc (.cells #[.string ⟨nm.toArray⟩, .slice pp ps.length cc] 65)).alloc (.cells #[.string ⟨nm.toArray⟩] 9)).cell? (ad.add j) = some u from tx_add (htx.tx.below BW.out) e hu))
              have hcc1 := htx.tx.cap
              have HPL := Lib.hid (plain_calls sGroup)
              unfold plainV at HPL
              clear r0 hgs htx
              go_wp2_with (at_builtin; refine Own.append_any rfl (.tmp 60) (.tmp 62) 55 rfl wr.heap.size 9 j0 _ 1 16 Tryz.underlying55 hj jz0 jz1 jz2 rfl (by decide) _ _ _ rfl HR1.out pp ps.length cc (strs ps) rfl (fun e => ⟨by have := HTX.out.nil e; omega, HTX.out.nil e⟩) (by rw [strs_len, Nat.mul_one]) HNE.out (strs_one ps) (by unfold maxLen; omega) (by omega) (by simp; omega) ?_; intro v' w5 hown1 hgrow1; have HO1 := Lib.hid hown1; have HG1 := Lib.hid hgrow1; clear hown1 hgrow1)
              obtain ⟨p', c', rfl, -⟩ := own_slice HO1.out
              refine (HPL.out _ _ _ _).mono ?_
              rintro e w6 ⟨rfl, hb6⟩
              have B5 := (out_grown (Out.ofNew BW.out) HG1.out fun k e _ => e).below (Nat.le_refl _) fun k e => by
                have e : some (wr.heap.size + 1) = some k := e
                injection e with e
                omega
              have B56 := Lib.hid (B5.trans (hb6.mono B5.size))
              have HNO : Hid (No wr.heap.size w6 [str sGroup, .slice p' (1 + ps.length) c', .bool false, .slice none 0 0, .int .i64 0] (grpN (nm, ps))) := Lib.hid (No.mk (by rw [show (nm :: ps).length = 1 + ps.length by rw [List.length_cons, Nat.add_comm]]; exact own_below HO1.out hb6) (Fo.nil _ _))
              clear hb6 HPL B5 HO1 HG1 HNE HTX HR1 BW
              have OW := Lib.hid (own_below HOWN.out B56.out)
              have hone := Lib.hid (Ls.one HNO.out)
              have hfw := HC.out.few
              have hs6 := B56.out.size
              unfold str at HNO hone
              go_wp2_with (at_builtin; refine wpList_append_own_at _ rfl (.tmp 57) (.tmp 65) 50 rfl w0.heap.size 57 i0 _ 5 80 Tryz.underlying50 hi hz0 hz1 hz2 rfl (by decide) _ _ _ rfl (World.ownsRow.alloc OW.out _) _ 1 1 _ rfl rfl (five_new _ _ _ _ _ _ _ _ rfl) hone.out (by unfold maxLen; omega) (by omega) (by simp; omega) ?_; intro v' w1 hown1 hgrow1 _ hob; have C1 := Lib.hid (pr_add HC.out HOWN.out HLS.out B56.out HNO.out ((Below.refl _ _).alloc (Nat.le_refl _) _) hown1 hgrow1 hob (by omega)); clear hown1 hgrow1 hob)
              go_roundw
              case rel => exact ⟨k + 1, _, by omega, by go_num, C1.out, by rw [HNS.out, HTK.out, List.append_assoc], by rw [List.length_append, List.length_singleton]; omega⟩
              case measure => simp [intOf]; omega
            · have HNS2 := Lib.hid (show ns = (brkNs 0 c.brks ++ c.cons.map conN ++ c.grps.map grpN) ++ (c.usrs.take 0).map usrN by rw [HNS.out, List.take_length]; simp)
              have NR := Lib.hid ((HC.out.below.block _ (at_lt NB.out)).trans NB.out)
              have c0 := (at_cell NR.out 2 : _ = some (Value.slice p2 c.usrs.length k2))
              clear HOWN HLS HNS NR r0
              go_wp2_with fail
              go_loopw [3, 71] (fun lv i wr => ∃ (k : Nat) (ns : List Nd), k ≤ c.usrs.length ∧ i = .int .i64 k ∧ PrAt w0.heap.size w0 wr lv ns ∧ ns = (brkNs 0 c.brks ++ c.cons.map conN ++ c.grps.map grpN) ++ (c.usrs.take k).map usrN ∧ ns.length ≤ 10000 + k) (fun _ i _ => c.usrs.length - (intOf i).toNat)
              case atStart => exact ⟨0, ns, by omega, rfl, HC.out, HNS2.out, by omega⟩
              case round =>
                clear HC HNS2 hlen hsz c0 BR hgs
                obtain ⟨k, ns, hk, rfl, C, hns, hlen⟩ := hrel
                rename World => wr
                have HC := Lib.hid C
                have HNS := Lib.hid hns
                obtain ⟨xs, hown, hls⟩ := C.fo
                have HOWN := Lib.hid hown
                have HLS := Lib.hid hls
                have hsz := C.base
                obtain ⟨vp, vc, rfl, -⟩ := own_slice hown
                have BR := Lib.hid (BB.out.trans (C.below.mono (by have := HW0.out; omega)))
                obtain ⟨_, _, hv, r0⟩ := HR.out.usrs
                injection hv with z1 _ z2
                subst z1 z2
                have hcL := HZ.out.usrs.1
                have hmx := r0.max
                have hcp := r0.cap
                unfold maxLen at hmx
                clear C hns hown hls
                rcases Nat.lt_or_eq_of_le hk with hlt | rfl
                · obtain ⟨g, o, rfl, hg, c0, c1⟩ := usr_at (r0.below BR.out) rfl hlt
                  have q1 : (k : Int) < (c.usrs.length : Int) := by omega
                  have HTK := Lib.hid (show (c.usrs.take (k + 1)).map usrN = (c.usrs.take k).map usrN ++ [usrN c.usrs[k]] by rw [List.take_succ_eq_append_getElem hlt, List.map_append]; rfl)
                  generalize c.usrs[k] = y at *
                  obtain ⟨nm, pw⟩ := y
                  dsimp only at c0 c1 HTK
                  have hw1 : wr.heap.size ≤ (wr.alloc (.cells #[.string ⟨nm.toArray⟩, .string ⟨pw.toArray⟩] 67)).heap.size := by simp
                  have hr1 := two_new (wr.alloc (.cells #[.string ⟨nm.toArray⟩, .string ⟨pw.toArray⟩] 67)) nm pw hw1
                  have hr2 : (wr.alloc (.cells #[.string ⟨nm.toArray⟩, .string ⟨pw.toArray⟩] 67)).heap.size = wr.heap.size + 1 := by simp
                  rw [hr2] at hr1
                  have HR1 := Lib.hid hr1
                  have BW := Lib.hid (((Below.refl wr.heap.size wr).alloc (Nat.le_refl _) (.cells #[.string ⟨nm.toArray⟩, .string ⟨pw.toArray⟩] 67)).alloc hw1 (.cells #[.string ⟨nm.toArray⟩, .string ⟨pw.toArray⟩] 9))
                  have HPL := Lib.hid (plain_calls sUser)
                  unfold plainV at HPL
                  clear r0 hr1 hr2
                  go_wp2_with fail
                  refine (HPL.out _ _ _ _).mono ?_
                  rintro e w6 ⟨rfl, hb6⟩
                  have B56 := Lib.hid (BW.out.trans (hb6.mono BW.out.size))
                  have HNO : Hid (No wr.heap.size w6 [str sUser, .slice (some ⟨wr.heap.size + 1, 0, none⟩) 2 2, .bool false, .slice none 0 0, .int .i64 0] (usrN (nm, pw))) := Lib.hid (No.mk (own_below HR1.out hb6) (Fo.nil _ _))
                  clear hb6 HPL HR1 BW
                  have OW := Lib.hid (own_below HOWN.out B56.out)
                  have hone := Lib.hid (Ls.one HNO.out)
                  have hfw := HC.out.few
                  have hs6 := B56.out.size
                  unfold str at HNO hone
                  go_wp2_with (at_builtin; refine wpList_append_own_at _ rfl (.tmp 75) (.tmp 82) 50 rfl w0.heap.size 57 i0 _ 5 80 Tryz.underlying50 hi hz0 hz1 hz2 rfl (by decide) _ _ _ rfl (World.ownsRow.alloc OW.out _) _ 1 1 _ rfl rfl (five_new _ _ _ _ _ _ _ _ rfl) hone.out (by unfold maxLen; omega) (by omega) (by simp; omega) ?_; intro v' w1 hown1 hgrow1 _ hob; have C1 := Lib.hid (pr_add HC.out HOWN.out HLS.out B56.out HNO.out ((Below.refl _ _).alloc (Nat.le_refl _) _) hown1 hgrow1 hob (by omega)); clear hown1 hgrow1 hob)
                  go_roundw
                  case rel => exact ⟨k + 1, _, by omega, by go_num, C1.out, by rw [HNS.out, HTK.out, List.append_assoc], by rw [List.length_append, List.length_singleton]; omega⟩
                  case measure => simp [intOf]; omega
                · have HNS2 := Lib.hid (show ns = (brkNs 0 c.brks ++ c.cons.map conN ++ c.grps.map grpN ++ c.usrs.map usrN) ++ (c.accs.take 0).map accN by rw [HNS.out, List.take_length]; simp)
                  have NR := Lib.hid ((HC.out.below.block _ (at_lt NB.out)).trans NB.out)
                  have c0 := (at_cell NR.out 3 : _ = some (Value.slice p3 c.accs.length k3))
                  clear HOWN HLS HNS NR r0
                  go_wp2_with fail
                  go_loopw [3, 88] (fun lv i wr => ∃ (k : Nat) (ns : List Nd), k ≤ c.accs.length ∧ i = .int .i64 k ∧ PrAt w0.heap.size w0 wr lv ns ∧ ns = (brkNs 0 c.brks ++ c.cons.map conN ++ c.grps.map grpN ++ c.usrs.map usrN) ++ (c.accs.take k).map accN ∧ ns.length ≤ 15000 + k) (fun _ i _ => c.accs.length - (intOf i).toNat)
                  case atStart => exact ⟨0, ns, by omega, rfl, HC.out, HNS2.out, by omega⟩
                  case round =>
                    clear HC HNS2 hlen hsz c0 BR
                    obtain ⟨k, ns, hk, rfl, C, hns, hlen⟩ := hrel
                    rename World => wr
                    have HC := Lib.hid C
                    have HNS := Lib.hid hns
                    obtain ⟨xs, hown, hls⟩ := C.fo
                    have HOWN := Lib.hid hown
                    have HLS := Lib.hid hls
                    have hsz := C.base
                    obtain ⟨vp, vc, rfl, -⟩ := own_slice hown
                    have BR := Lib.hid (BB.out.trans (C.below.mono (by have := HW0.out; omega)))
                    obtain ⟨_, _, hv, r0⟩ := HR.out.accs
                    injection hv with z1 _ z2
                    subst z1 z2
                    have hcL := HZ.out.accs.1
                    have hmx := r0.max
                    have hcp := r0.cap
                    unfold maxLen at hmx
                    clear C hns hown hls
                    rcases Nat.lt_or_eq_of_le hk with hlt | rfl
                    · obtain ⟨g, o, rfl, hg, c0, c1, c2⟩ := acc_at (r0.below BR.out) rfl hlt
                      have q1 : (k : Int) < (c.accs.length : Int) := by omega
                      have HTK := Lib.hid (show (c.accs.take (k + 1)).map accN = (c.accs.take k).map accN ++ [accN c.accs[k]] by rw [List.take_succ_eq_append_getElem hlt, List.map_append]; rfl)
                      generalize c.accs[k] = y at *
                      obtain ⟨cn, un, lv⟩ := y
                      dsimp only at c0 c1 c2 HTK
                      have N1 := at_new wr (.cells #[.string ⟨cn.toArray⟩, .string ⟨un.toArray⟩, .int .i64 lv] 46)
                      have BW := (Below.refl wr.heap.size wr).alloc (Nat.le_refl _) (.cells #[.string ⟨cn.toArray⟩, .string ⟨un.toArray⟩, .int .i64 lv] 46)
                      clear r0
                      go_wp2_with fail
                      refine wp_snoc [92, 93, 94, 95, 96, 97, 98, 99, 100, 101, 102, 103, 104, 3] [.val (.slice vp ns.length vc), .val (.pointer (some ⟨wr.heap.size, 0, none⟩)), .val (.string ⟨cn.toArray⟩), .val (.pointer (some ⟨wr.heap.size, 1, none⟩)), .val (.string ⟨un.toArray⟩), .arr lvlArr 4, .val (.pointer (some ⟨wr.heap.size, 2, none⟩)), .val (.int .i64 lv), .val (.string ⟨(lvlW lv).toArray⟩), .row [cn, un, lvlW lv], .agg (accN (cn, un, lv)), .cell (accN (cn, un, lv))] 12 w0.heap.size _ ns (accN (cn, un, lv)) xs
                        (by kernel_rfl) rfl (by kernel_rfl) (by decide) (fun o h => by cases h; rfl) (fun o h => by cases h; rfl) (fun o h => by cases h; rfl) (Reg.mem_of (by kernel_rfl)) (Reg.mem_of (by kernel_rfl)) (Reg.mem_of (by kernel_rfl)) rfl rfl rfl HC.out HOWN.out HLS.out (by omega) BW ?_ ?_
                      · intro i o a' w' hi h0 ho hdp hot hb
                        have h13 : a'.tmps[13]? = some (.pointer (some ⟨wr.heap.size, 0, none⟩)) := (hot 13 (by decide)).trans rfl
                        have NX := (hb.block _ (at_lt N1)).trans N1
                        have hww : wr.heap.size ≤ w'.heap.size := Nat.le_trans BW.size hb.size
                        match i, h0, hi, ho, hdp with
                        | 1, _, _, ho, hdp =>
                          obtain rfl := Option.some.inj ho
                          exact wp_faA 0 (by decide) 13 _ rfl h13 ⟨_, rfl, rfl, Below.refl _ _⟩
                        | 2, _, _, ho, hdp =>
                          obtain rfl := Option.some.inj ho
                          obtain ⟨_, h1, rfl⟩ := hdp 1 (Reg.mem_of (by kernel_rfl)) (by decide)
                          exact wp_load_str 93 _ _ rfl h1 (at_cell NX 0) ⟨_, rfl, rfl, Below.refl _ _⟩
                        | 3, _, _, ho, hdp =>
                          obtain rfl := Option.some.inj ho
                          exact wp_faA 1 (by decide) 13 _ rfl h13 ⟨_, rfl, rfl, Below.refl _ _⟩
                        | 4, _, _, ho, hdp =>
                          obtain rfl := Option.some.inj ho
                          obtain ⟨_, h1, rfl⟩ := hdp 3 (Reg.mem_of (by kernel_rfl)) (by decide)
                          exact wp_load_str 95 _ _ rfl h1 (at_cell NX 1) ⟨_, rfl, rfl, Below.refl _ _⟩
                        | 5, _, _, ho, hdp =>
                          obtain rfl := Option.some.inj ho
                          refine wp_levels _ rfl ((levels_calls _).mono ?_)
                          rintro e w2 ⟨rfl, rfl⟩
                          exact ⟨_, rfl, _, rfl, ⟨w'.heap.size, rfl, hww, at_new _ _⟩, (Below.refl _ _).alloc (Nat.le_refl _) _⟩
                        | 6, _, _, ho, hdp =>
                          obtain rfl := Option.some.inj ho
                          exact wp_faA 2 (by decide) 13 _ rfl h13 ⟨_, rfl, rfl, Below.refl _ _⟩
                        | 7, _, _, ho, hdp =>
                          obtain rfl := Option.some.inj ho
                          obtain ⟨_, h1, rfl⟩ := hdp 6 (Reg.mem_of (by kernel_rfl)) (by decide)
                          exact wp_load_int 98 _ _ rfl h1 (at_cell NX 2) ⟨_, rfl, rfl, Below.refl _ _⟩
                        | 8, _, _, ho, hdp =>
                          obtain rfl := Option.some.inj ho
                          obtain ⟨_, h1, g1, rfl, -, hg1⟩ := hdp 5 (Reg.mem_of (by kernel_rfl)) (by decide)
                          obtain ⟨_, h2, rfl⟩ := hdp 7 (Reg.mem_of (by kernel_rfl)) (by decide)
                          refine wp_word 97 99 _ _ _ rfl h1 h2 ((wordAt_calls [sNone, sLook, sHand, sChief] 4 rfl (some ⟨g1, 0, none⟩) 4 lv w' (lvl_tx hg1)).mono ?_)
                          rintro e w2 ⟨rfl, rfl⟩
                          exact ⟨_, rfl, _, rfl, by rw [lvl_word]; rfl, Below.refl _ _⟩
                        | 9, _, _, ho, hdp =>
                          obtain rfl := Option.some.inj ho
                          obtain ⟨_, h1, rfl⟩ := hdp 2 (Reg.mem_of (by kernel_rfl)) (by decide)
                          obtain ⟨_, h2, rfl⟩ := hdp 4 (Reg.mem_of (by kernel_rfl)) (by decide)
                          obtain ⟨_, h3, rfl⟩ := hdp 8 (Reg.mem_of (by kernel_rfl)) (by decide)
                          exact wp_row3 94 96 100 _ _ _ rfl h1 h2 h3 ⟨_, rfl, ⟨w'.heap.size, rfl, row_new w' _ _ rfl hww (by simp) _ rfl⟩, (Below.refl _ _).alloc (Nat.le_refl _) _⟩
                        | 10, _, _, ho, hdp =>
                          obtain rfl := Option.some.inj ho
                          obtain ⟨_, h1, g1, rfl, o1⟩ := hdp 9 (Reg.mem_of (by kernel_rfl)) (by decide)
                          refine wp_plain 101 _ _ _ rfl h1 ((plain_calls sAccess (some ⟨g1, 0, none⟩) _ _ _).mono ?_)
                          rintro e w2 ⟨rfl, hb2⟩
                          exact ⟨_, rfl, _, rfl, ⟨_, _, rfl, No.mk (own_below o1 hb2) (Fo.nil _ _)⟩, hb2⟩
                        | 11, _, _, ho, hdp =>
                          obtain rfl := Option.some.inj ho
                          obtain ⟨_, h1, va, vl, rfl, hn⟩ := hdp 10 (Reg.mem_of (by kernel_rfl)) (by decide)
                          obtain ⟨⟨p, q, rfl⟩, p', q', rfl⟩ := no_forms hn
                          have hb2 : Below w'.heap.size w' (w'.alloc (.cells #[str (accN (cn, un, lv)).key, .slice p (accN (cn, un, lv)).args.length q, .bool (accN (cn, un, lv)).block, .slice p' (accN (cn, un, lv)).list.length q', .int .i64 (accN (cn, un, lv)).line] 57)) := (Below.refl _ _).alloc (Nat.le_refl _) _
                          exact wp_cell 102 _ _ _ _ _ _ _ _ _ _ _ _ _ _ rfl h1 rfl rfl rfl rfl rfl ⟨_, rfl, ⟨w'.heap.size, _, _, rfl, hww, at_new _ _, hn.below hb2⟩, hb2⟩
                      · intro vs w' hvl hP
                        match vs, hvl, hP with
                        | [x0, x1, x2, x3, x4, x5, x6, x7, x8, x9, x10, x11, x12, x13], _, hP =>
                          have C1 := Lib.hid (show PrAt w0.heap.size w0 w' x13 (ns ++ [accN (cn, un, lv)]) from hP)
                          clear hP N1 BW
                          simp only [List.zip, List.zipWith, Reg.puts, Act.put, List.setIfInBounds_toArray, List.set_cons_succ, List.set_cons_zero]
                          go_wp2_with fail
                          go_roundw
                          case rel => exact ⟨k + 1, _, by omega, by go_num, C1.out, by rw [HNS.out, HTK.out, List.append_assoc], by rw [List.length_append, List.length_singleton]; omega⟩
                          case measure => simp [intOf]; omega
                    · have HNS2 := Lib.hid (show ns = nodes c by rw [HNS.out, List.take_length]; unfold nodes; simp only [List.append_assoc])
                      have HP := Lib.hid (print_calls ns vp ns.length vc wr rfl HC.out.fo.sl (by rw [HNS2.out]; exact wt_nodes HZ.out))
                      clear HOWN HLS HNS r0
                      go_wp2_with fail
                      refine HP.out.mono ?_
                      rintro e w6 ⟨rfl, hb6⟩
                      have HB6 := Lib.hid (BR.out.trans (hb6.mono BR.out.size))
                      have HT2 := Lib.hid (show prT (txtL 0 ns) = (printT c).getD [] by
                        rw [HNS2.out]
                        unfold printT
                        cases txtL 0 (nodes c) <;> rfl)
                      clear hb6 HP
                      go_wp2_with fail
                      go_ret
                      exact ⟨by rw [← HT2.out]; rfl, HB6.out⟩
end Go.Proofs.YtajfdachpdkbcaaGreatDoor.Conf
end

section
namespace Go.Proofs.YtajfdachpdkbcaaGreatDoor.Digit
open Go.RowKit

set_option maxHeartbeats 400000 in
theorem rpad_calls (n width : Int) (h1 : -9223372036854775808 ≤ n) (h2 : n ≤ 9223372036854775807) (w : World) :
    Calls Tryz.prog 160 #[.int .i64 n, .int .i64 width] w fun e w' => e = .returned (.string ⟨(padI n width).toArray⟩) ∧ w = w' := by
  by_cases hn : n < 0
  · have H := Lib.hid (padI_none (n := n) (width := width) (.inl hn))
    go_enter Tryz.func160, Tryz.ntmps160
    go_wp2
    go_ret
    exact ⟨ret_string (by rw [H.out]), rfl⟩
  · by_cases hw : width < 0
    · have H := Lib.hid (padI_none (n := n) (width := width) (.inr (.inl hw)))
      go_enter Tryz.func160, Tryz.ntmps160
      go_wp2
      go_ret
      exact ⟨ret_string (by rw [H.out]), rfl⟩
    · by_cases hv : 20 < width
      · have H := Lib.hid (padI_none (n := n) (width := width) (.inr (.inr hv)))
        go_enter Tryz.func160, Tryz.ntmps160
        go_wp2
        go_ret
        exact ⟨ret_string (by rw [H.out]), rfl⟩
      · have H := Lib.hid (padI_some (n := n) (width := width) (by omega))
        have L := dec_len h1 h2
        obtain ⟨m, rfl⟩ : ∃ m : Nat, width = m := ⟨width.toNat, by omega⟩
        go_enter Tryz.func160, Tryz.ntmps160
        go_wp2_with (go_at_call 35; refine (rput_calls _ (by omega) (by omega) _).mono ?_; rintro e w' ⟨rfl, rfl⟩)
        go_loop [5] (fun s => ∃ l : List UInt8, PadAt (dec n) l m ∧ l.length ≤ 20 ∧ s = .string ⟨l.toArray⟩) (fun s => 20 - lenOf s)
        case atStart => exact ⟨_, pad_start _ _, L, rfl⟩
        case round =>
          obtain ⟨l, hp, hl, rfl⟩ := hrel
          by_cases hlt : l.length < m
          · have hp' := pad_next hp hlt
            go_wp2_with fail
            go_round
            case rel => exact ⟨48 :: l, hp', by simp; omega, string_cons _ _⟩
            case measure => rw [string_cons]; simp only [lenOf, size_mk, List.length_cons]; omega
          · have he := Lib.hid (pad_done hp hlt)
            go_wp2_with fail
            go_ret
            exact ⟨ret_string (by rw [H.out, he.out]; rfl), rfl⟩

end Go.Proofs.YtajfdachpdkbcaaGreatDoor.Digit
end

section
namespace Go.Proofs.YtajfdachpdkbcaaGreatDoor.Digit
open Go.RowKit

theorem repeat_one (c : UInt8) (k : Nat) : Lib.repeatL [c] k = List.replicate k c := by
  induction k with
  | zero => rfl
  | succ k ih => rw [Lib.repeatL, ih]; rfl
theorem rep_calls (c : Int) (h0 : 0 ≤ c) (h1 : c ≤ 20) (w : World) :
    Calls Tryz.prog 89 #[.string ⟨#[48]⟩, .int .i64 c] w fun e w' => e = .returned (.string ⟨(List.replicate c.toNat 48).toArray⟩) ∧ Below w.heap.size w w' := by
  obtain ⟨k, rfl⟩ : ∃ k : Nat, c = k := ⟨c.toNat, by omega⟩
  have h := Tryz.strings_Repeat ⟨#[48]⟩ k w (by omega) (by show 1 * k ≤ _; omega)
  rw [repeat_one] at h
  exact h

set_option maxHeartbeats 400000 in
theorem pad_calls (n width : Int) (h1 : -9223372036854775808 ≤ n) (h2 : n ≤ 9223372036854775807) (w : World) :
    Calls Tryz.prog 183 #[.int .i64 n, .int .i64 width] w fun e w' => e = .returned (.string ⟨(padI n width).toArray⟩) ∧ Below w.heap.size w w' := by
  by_cases hn : n < 0
  · have H := Lib.hid (padI_none (n := n) (width := width) (.inl hn))
    go_enter Tryz.func183, Tryz.ntmps183
    go_wp2_with fail
    go_ret
    exact ⟨ret_string (by rw [H.out]), Below.refl _ _⟩
  · by_cases hw : width < 0
    · have H := Lib.hid (padI_none (n := n) (width := width) (.inr (.inl hw)))
      go_enter Tryz.func183, Tryz.ntmps183
      go_wp2_with fail
      go_ret
      exact ⟨ret_string (by rw [H.out]), Below.refl _ _⟩
    · by_cases hv : 20 < width
      · have H := Lib.hid (padI_none (n := n) (width := width) (.inr (.inr hv)))
        go_enter Tryz.func183, Tryz.ntmps183
        go_wp2_with fail
        go_ret
        exact ⟨ret_string (by rw [H.out]), Below.refl _ _⟩
      · have H := Lib.hid (padI_some (n := n) (width := width) (by omega))
        have L := dec_len h1 h2
        obtain ⟨m, rfl⟩ : ∃ m : Nat, width = m := ⟨width.toNat, by omega⟩
        go_enter Tryz.func183, Tryz.ntmps183
        go_wp2_with (first | (go_at_call 23; refine (put_calls _ (by omega) (by omega) _).mono ?_; rintro e w' ⟨rfl, hb⟩) | (go_at_call 89; refine (rep_calls _ (by omega) (by omega) _).mono ?_; rintro e w' ⟨rfl, hb2⟩))
        go_ret
        exact ⟨ret_string (by rw [H.out, bytes_add, padL, show (max 0 ((m : Int) - (dec n).length)).toNat = (m : Int).toNat - (dec n).length by omega, Array.toList_replicate]), hb.trans (hb2.mono hb.size)⟩

end Go.Proofs.YtajfdachpdkbcaaGreatDoor.Digit
end

section
namespace Go.Proofs.YtajfdachpdkbcaaGreatDoor.Digit
open Go.RowKit

theorem rhex_calls (c : Int) (h0 : 0 ≤ c) (h1 : c < 256) (w : World) :
    Calls Tryz.prog 161 #[.int .u8 c] w fun e w' => e = .returned (.string ⟨(hexS c.toNat).toArray⟩) ∧ w = w' := by
  go_enter Tryz.func161, Tryz.ntmps161
  go_wp2_with (go_at_call 57; refine (rdigit_calls _ (by omega) (by omega) _).mono ?_; rintro e w' ⟨rfl, rfl⟩)
  go_ret
  exact ⟨ret_string (by rw [show (c / 16).toNat = c.toNat / 16 by omega, show (c % 16).toNat = c.toNat % 16 by omega]; exact bytes_add [_] [_]), rfl⟩

end Go.Proofs.YtajfdachpdkbcaaGreatDoor.Digit
end

section
namespace Go.Proofs.YtajfdachpdkbcaaGreatDoor.Digit
open Go.RowKit

/-- string([]byte{c}) -/
theorem run_byte_string {P : Program} (W : World) (c : Int) (src dst e : TypeId) (hs : P.underlying src = some (.slice e)) (he : P.underlying e = some (.int .u8)) (hd : P.underlying dst = some .string) :
    (convert src dst (.slice (some ⟨W.heap.size, 0, none⟩) 1 1)).run P (W.alloc (.cells #[.int .u8 c] e)) = .ok (.string ⟨#[c.toNat.toUInt8]⟩) (W.alloc (.cells #[.int .u8 c] e)) := by
  rw [run_convert_bytes_string _ src dst e _ 1 1 hs he hd]
  have hl := run_loadCells_list (P := P) (W.alloc (.cells #[.int .u8 c] e)) ⟨W.heap.size, 0, none⟩ ([c].map (Value.int .u8)) (fun j v hj => by
    match j, hj with
    | 0, hj => simp at hj; subst hj; rw [show (⟨W.heap.size, 0, none⟩ : Addr).add 0 = ⟨W.heap.size, 0, none⟩ from rfl]; simp
    | j + 1, hj => simp at hj)
  rw [run_bytesToString _ _ 1 1 [c] hl]
  rfl

theorem run_byte_at {P : Program} (W : World) (b : Nat) (c : Int) (src dst e : TypeId) (hs : P.underlying src = some (.slice e)) (he : P.underlying e = some (.int .u8)) (hd : P.underlying dst = some .string)
    (hc : W.cell? ⟨b, 0, none⟩ = some (.int .u8 c)) :
    (convert src dst (.slice (some ⟨b, 0, none⟩) 1 1)).run P W = .ok (.string ⟨#[c.toNat.toUInt8]⟩) W := by
  rw [run_convert_bytes_string _ src dst e _ 1 1 hs he hd]
  have hl := run_loadCells_list (P := P) W ⟨b, 0, none⟩ ([c].map (Value.int .u8)) (fun j v hj => by
    match j, hj with
    | 0, hj => simp at hj; subst hj; exact hc
    | j + 1, hj => simp at hj)
  rw [run_bytesToString _ _ 1 1 [c] hl]
  rfl

theorem ret_u8 {a b : Int} (h : a = b) : Ending.returned (.int .u8 a) = .returned (.int .u8 b) := by rw [h]

theorem ret_text {a b : List UInt8} {c d : Int} (h : a = b) (g : c = d) : Ending.returned (.tuple #[.string ⟨a.toArray⟩, .int .i64 c]) = .returned (.tuple #[.string ⟨b.toArray⟩, .int .i64 d]) := by rw [h, g]

theorem rsign_calls (c : Int) (h0 : 0 ≤ c) (h1 : c < 256) (w : World) :
    Calls Tryz.prog 177 #[.int .u8 c] w fun e w' => e = .returned (.string ⟨(sgn c.toNat).toArray⟩) ∧ Below w.heap.size w w' := by
  by_cases e1 : c = 92
  · subst e1
    go_enter Tryz.func177, Tryz.ntmps177
    go_wp2_with fail
    go_ret
    exact ⟨rfl, Below.refl _ _⟩
  by_cases e2 : c = 10
  · subst e2
    go_enter Tryz.func177, Tryz.ntmps177
    go_wp2_with fail
    go_ret
    exact ⟨rfl, Below.refl _ _⟩
  by_cases e3 : c = 13
  · subst e3
    go_enter Tryz.func177, Tryz.ntmps177
    go_wp2_with fail
    go_ret
    exact ⟨rfl, Below.refl _ _⟩
  by_cases e4 : c = 9
  · subst e4
    go_enter Tryz.func177, Tryz.ntmps177
    go_wp2_with fail
    go_ret
    exact ⟨rfl, Below.refl _ _⟩
  have H := Lib.hid (sgn_other (n := c.toNat) (by omega) (by omega) (by omega) (by omega))
  by_cases e5 : c < 32
  · go_enter Tryz.func177, Tryz.ntmps177
    go_wp2_with (go_at_call 161; refine (rhex_calls _ (by omega) (by omega) _).mono ?_; rintro e w' ⟨rfl, rfl⟩)
    go_ret
    exact ⟨ret_string (by rw [H.out, if_pos (by omega)]; exact bytes_add [92, 120] _), Below.refl _ _⟩
  by_cases e6 : 126 < c
  · go_enter Tryz.func177, Tryz.ntmps177
    go_wp2_with (go_at_call 161; refine (rhex_calls _ (by omega) (by omega) _).mono ?_; rintro e w' ⟨rfl, rfl⟩)
    go_ret
    exact ⟨ret_string (by rw [H.out, if_pos (by omega)]; exact bytes_add [92, 120] _), Below.refl _ _⟩
  · have hcv := fun (W : World) => run_byte_string W c 91 9 5 Tryz.underlying91 Tryz.underlying5 Tryz.underlying9
    go_enter Tryz.func177, Tryz.ntmps177
    go_wp2_with fail
    go_ret
    exact ⟨ret_string (by rw [H.out, if_neg (by omega)]), (Below.refl _ _).alloc (Nat.le_refl _) _⟩

set_option maxHeartbeats 400000 in
theorem rshow_calls (s : ByteArray) (hs : s.size ≤ 100000) (w : World) :
    Calls Tryz.prog 162 #[.string s] w fun e w' => e = .returned (.string ⟨(shw s.data.toList).toArray⟩) ∧ Below w.heap.size w w' := by
  go_enter Tryz.func162, Tryz.ntmps162
  go_wp2
  go_loopw [3, 4] (fun o i wr => ∃ k : Nat, k ≤ s.size ∧ i = .int .i64 k ∧ o = .string ⟨(shw (s.data.toList.take k)).toArray⟩ ∧ Below w.heap.size w wr) (fun _ i _ => s.size - (intOf i).toNat)
  case atStart => exact ⟨0, Nat.zero_le _, rfl, rfl, Below.refl _ _⟩
  case round =>
    obtain ⟨k, hk, rfl, rfl, hb⟩ := hrel
    have hl := shw_len (s.data.toList.take k)
    rw [List.length_take, size_list, Nat.min_eq_left hk] at hl
    by_cases hlt : k < s.size
    · have HS := Lib.hid (shw_snoc s k hlt)
      have hl2 := (sgn_len s[k].toNat).2
      have hc : (s[k].toNat : Int) < 256 := by have := s[k].toNat_lt; omega
      generalize shw (s.data.toList.take k) = o at hl HS
      go_wp2_with (go_at_call 177; refine (rsign_calls _ (by omega) (by omega) _).mono ?_; rintro e w' ⟨rfl, hb1⟩)
      go_roundw
      case rel => exact ⟨k + 1, by omega, by go_num, by rw [HS.out, ← bytes_add], hb.trans (hb1.mono hb.size)⟩
      case measure => simp [intOf]; omega
    · go_wp2_with fail
      go_ret
      exact ⟨ret_string (by rw [List.take_of_length_le (by rw [size_list]; omega)]), hb⟩

end Go.Proofs.YtajfdachpdkbcaaGreatDoor.Digit
end

section
namespace Go.Proofs.YtajfdachpdkbcaaGreatDoor.Digit
open Go.RowKit

theorem index_calls (c : Int) (w : World) :
    Calls Tryz.prog 109 #[.string ⟨#[48, 49, 50, 51, 52, 53, 54, 55, 56, 57, 97, 98, 99, 100, 101, 102]⟩, .int .u8 c] w fun e w' => e = .returned (.int .i64 (Lib.indexByte hexTab c.toNat.toUInt8)) ∧ w = w' :=
  (Tryz.strings_IndexByte _ c w).mono fun _ _ ⟨h1, h2⟩ => ⟨h1, h2.symm⟩

theorem two_list (s : ByteArray) (h : s.size = 2) : s.data.toList = [s[0], s[1]] := by
  have hl : s.data.toList.length = 2 := h
  match hs : s.data.toList, hl with
  | [a, b], _ =>
    have e0 : s[0] = s.data.toList[0] := rfl
    have e1 : s[1] = s.data.toList[1] := rfl
    simp [e0, e1, hs]

theorem or_all : ∀ a : Fin 16, ∀ b : Fin 16, bits BinOp.or IntKind.i64 ((a.val : Int) * 16) (b.val : Int) = (a.val : Int) * 16 + (b.val : Int) := by decide +kernel
theorem or_16 {x y : Int} (h0 : 0 ≤ x) (h1 : x < 16) (g0 : 0 ≤ y) (g1 : y < 16) : bits BinOp.or IntKind.i64 (x * 16) y = x * 16 + y := by
  have h := or_all ⟨x.toNat, by omega⟩ ⟨y.toNat, by omega⟩
  simp only [Int.toNat_of_nonneg h0, Int.toNat_of_nonneg g0] at h
  exact h

theorem u8_back (c : UInt8) : ((c.toNat : Int)).toNat.toUInt8 = c := by simp

set_option maxHeartbeats 400000 in
theorem readhex_calls (s : ByteArray) (w : World) :
    Calls Tryz.prog 180 #[.string s] w fun e w' => e = .returned (.tuple #[.int .u8 (rhV s.data.toList), .int .i64 (rhC s.data.toList)]) ∧ w = w' := by
  by_cases h2 : s.size = 2
  · have p0 : 0 < s.size := by omega
    have p1 : 1 < s.size := by omega
    have hl : s.data.toList = [s[0], s[1]] := two_list s h2
    rcases idx_spec s[0] with ⟨i0, i1⟩ | ⟨i0, i1, i2⟩
    · have H := Lib.hid (rh_none (s := s.data.toList) (by rw [hl]; rintro ⟨c, hc, hh⟩; exact i1 (c / 16) (by omega) (List.cons.inj hh).1))
      have hx : Lib.indexByte hexTab s[0] < 0 := by omega
      clear i0 i1 hl
      go_enter Tryz.func180, Tryz.ntmps180
      go_wp2_with (go_at_call 109; refine (index_calls _ _).mono ?_; rintro e w' ⟨rfl, rfl⟩)
      go_ret2
      exact ⟨ret_byte H.out.1.symm H.out.2.symm, rfl⟩
    · rcases idx_spec s[1] with ⟨j0, j1⟩ | ⟨j0, j1, j2⟩
      · have H := Lib.hid (rh_none (s := s.data.toList) (by rw [hl]; rintro ⟨c, hc, hh⟩; exact j1 (c % 16) (by omega) (List.cons.inj (List.cons.inj hh).2).1))
        have hx : Lib.indexByte hexTab s[1] < 0 := by omega
        clear i2 j0 j1 hl
        go_enter Tryz.func180, Tryz.ntmps180
        go_wp2_with (go_at_call 109; refine (index_calls _ _).mono ?_; rintro e w' ⟨rfl, rfl⟩)
        go_ret2
        exact ⟨ret_byte H.out.1.symm H.out.2.symm, rfl⟩
      · have hh : hexS (16 * (Lib.indexByte hexTab s[0]).toNat + (Lib.indexByte hexTab s[1]).toNat) = s.data.toList := by
          rw [hl, hexS]
          rw [show (16 * (Lib.indexByte hexTab s[0]).toNat + (Lib.indexByte hexTab s[1]).toNat) / 16 = (Lib.indexByte hexTab s[0]).toNat by omega, show (16 * (Lib.indexByte hexTab s[0]).toNat + (Lib.indexByte hexTab s[1]).toNat) % 16 = (Lib.indexByte hexTab s[1]).toNat by omega, i2, j2]
        have G := rh_some (c := 16 * (Lib.indexByte hexTab s[0]).toNat + (Lib.indexByte hexTab s[1]).toNat) (by omega)
        rw [hh] at G
        have H := Lib.hid G
        clear G i2 j2 hl hh
        go_enter Tryz.func180, Tryz.ntmps180
        go_wp2_with (go_at_call 109; refine (index_calls _ _).mono ?_; rintro e w' ⟨rfl, rfl⟩)
        go_ret2
        exact ⟨ret_byte (by rw [H.out.1, or_16 i0 i1 j0 j1]; omega) H.out.2.symm, rfl⟩
  · have H := Lib.hid (rh_none (s := s.data.toList) (by rintro ⟨c, hc, hh⟩; have := congrArg List.length hh; rw [size_list] at this; simp [hexS] at this; omega))
    go_enter Tryz.func180, Tryz.ntmps180
    go_wp2_with fail
    go_ret2
    exact ⟨ret_byte H.out.1.symm H.out.2.symm, rfl⟩

end Go.Proofs.YtajfdachpdkbcaaGreatDoor.Digit
end


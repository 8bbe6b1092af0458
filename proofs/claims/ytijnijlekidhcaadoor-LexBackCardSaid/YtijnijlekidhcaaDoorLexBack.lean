/-
  Layer 12 (lex): the walk of LexBack.
-/
import Derived.Test.YtijnijlekidhcaaDoorLexWorks
import Derived.Test.YtijnijlekidhcaaDoorLexBackP
import Derived.Test.YtijnijlekidhcaaDoorArgs
import Derived.Deep.AppendLies
import Derived.Lib.SmallJoins
namespace Go.Proofs.YtijnijlekidhcaaDoor.Lex
open Go.RowKit Go.Proofs.YtijnijlekidhcaaDoor.Own

set_option maxRecDepth 100000 in
set_option maxHeartbeats 1000000 in
theorem gap_calls (g : Int) (h0 : 0 ≤ g) (w : World) : Calls Tryd.prog 16 #[.int .u8 g] w fun e w' => e = .returned (.tuple #[.string ⟨(gapT g).toArray⟩, .int .i64 (gapN g)]) ∧ w = w' := by
  rcases gap_cases g with ⟨h, e1, e2⟩ | ⟨h, e1, e2⟩ | ⟨h, e1, e2⟩ | ⟨h, e1, e2⟩
  all_goals
    rw [e1, e2]
    have ht : Int.tmod g 4 = g % 4 := Int.tmod_eq_emod_of_nonneg h0
    rw [h] at ht
    clear e1 e2
    go_enter Tryd.func16, Tryd.ntmps16
    go_wp2_with fail
    go_ret2
    exact ⟨rfl, rfl⟩

/-- parts that came in -/
structure Prt where
  k : Int
  t : ByteArray
  g : Int
def Prt.cell (x : Prt) (j : Nat) : Value := #[.int .i64 x.k, .string x.t, .int .u8 x.g].getD j undef
structure PIn (w : World) (v : Value) (n : Nat) (o : Nat → Prt) : Prop where
  row : Row w v n 3 fun i j => (o i).cell j
  g : ∀ i, i < n → 0 ≤ (o i).g ∧ (o i).g ≤ 255 ∧ (o i).t.size ≤ maxLen
theorem three_fresh (w : World) (x y z : Value) (T : TypeId) : ∀ j u, [x, y, z][j]? = some u → (w.alloc (.cells #[x, y, z] T (0, 0))).drew.cell? ((⟨w.heap.size, 0, none⟩ : Addr).add j) = some u := fun j u hu =>
  three_new w x y z T w.heap.size rfl _ rfl j u hu

/-- what was put so far -/
structure BackAt (w wr : World) (A : List Pt) (i : Nat) (v : Value) : Prop where
  own : wr.ownsRow w.heap.size 47 3 v A.length (pv (wnt 1 A))
  below : Below w.heap.size w wr
  len : A.length ≤ i
  ok : ∀ x ∈ A, ptC x.k x.t = 0 ∧ x.t.length ≤ 60
theorem BackAt.skip {w wr w5 : World} {A : List Pt} {i : Nat} {v : Value} (h : BackAt w wr A i v) (hb : Below wr.heap.size wr w5) : BackAt w w5 A (i + 1) v :=
  ⟨own_below h.own hb, h.below.trans (hb.mono h.below.size), by have := h.len; omega, h.ok⟩
theorem BackAt.step {w wr w5 w1 : World} {A : List Pt} {i : Nat} {v v' : Value} (h : BackAt w wr A i v) {x : Pt} (hx : ptC x.k x.t = 0 ∧ x.t.length ≤ 60) (hb : Below wr.heap.size wr w5) {n : Nat} (hn : n = A.length)
    (ho : w1.ownsRow w.heap.size 47 3 v' (n + 1) (pv (wnt 1 A) ++ [.int .i64 x.k, .string ⟨x.t.toArray⟩, .int .i64 (1 + lns A)])) (hg : w5.grownBy w1 v.ownBlock) : BackAt w w1 (A ++ [x]) (i + 1) v' := by
  subst hn
  have hs := h.below.size
  have hs5 := hb.size
  have hlen := h.len
  refine ⟨?_, ?_, ?_, ?_⟩
  · rw [List.length_append, wnt_app, pv_app]; exact ho
  · exact (h.below.trans (hb.mono hs)).grown hg (by omega) (fun k hk => (World.ownsRow.lt h.own k hk).1)
  · rw [List.length_append, List.length_singleton]; omega
  · intro y hy
    rcases List.mem_append.1 hy with hy | hy
    · exact h.ok y hy
    · rw [List.mem_singleton] at hy; subst hy; exact hx

theorem held2 {w1 w5 : World} {b o1 o2 o3 : Nat} {x y z : Value} (hb : Below w1.heap.size w1 w5) (hlt : b < w1.heap.size) (c0 : w1.cell? ⟨b, o1, none⟩ = some x) (c1 : w1.cell? ⟨b, o2, none⟩ = some y) (c2 : w1.cell? ⟨b, o3, none⟩ = some z) :
    w5.cell? ⟨b, o1, none⟩ = some x ∧ w5.cell? ⟨b, o2, none⟩ = some y ∧ w5.cell? ⟨b, o3, none⟩ = some z :=
  ⟨(hb.cell (p := ⟨b, o1, none⟩) hlt).trans c0, (hb.cell (p := ⟨b, o2, none⟩) hlt).trans c1, (hb.cell (p := ⟨b, o3, none⟩) hlt).trans c2⟩

set_option maxRecDepth 100000 in
set_option maxHeartbeats 8000000 in
theorem back_walk (p : Option Addr) (n cap : Nat) (o : Nat → Prt) (w : World) (hI : PIn w (.slice p n cap) n o) (hT : Flt.Tab w) :
    Calls Tryd.prog 5 #[.slice p n cap] w fun e w' => e = .returned (.bool true) ∧ Below w.heap.size w w' := by
  have HT := Lib.hid hT
  have HI := Lib.hid hI
  clear hT hI
  obtain ⟨i0, hi, hz0, hz1, hz2⟩ := info_parts info_rpiece
  by_cases h30 : 30 < n
  · have q1 : (30 : Int) < (n : Int) := by omega
    go_enter Tryd.func5, Tryd.ntmps5
    go_wp2_with fail
    refine (works_calls _ HT.out).mono ?_
    rintro e w1 ⟨rfl, hb⟩
    go_wp2_with fail
    go_ret
    exact ⟨rfl, hb⟩
  · have hn : n ≤ 30 := by omega
    have q1 : ¬ (30 : Int) < (n : Int) := by omega
    clear h30
    go_enter Tryd.func5, Tryd.ntmps5
    go_wp2_with fail
    go_loopw [3, 4, 5, 6] (fun sv lv v iv wr => ∃ (A : List Pt) (i : Nat), i ≤ n ∧ sv = .string ⟨(txt A).toArray⟩ ∧ lv = .int .i64 (1 + lns A) ∧ iv = .int .i64 i ∧ BackAt w wr A i v) (fun _ _ _ iv _ => n - (intOf iv).toNat)
    case atStart => exact ⟨[], 0, Nat.zero_le _, rfl, rfl, rfl, World.ownsRow_nil _ _ _ _, Below.refl _ _, Nat.le_refl _, fun x hx => absurd hx (by simp)⟩
    case round =>
      obtain ⟨A, i, hin, rfl, rfl, rfl, C⟩ := hrel
      rename World => wr
      have hAi := C.len
      have hlr := lns_range A
      have htl := txt_len C.ok
      have hsz := size_mk (txt A)
      have hbs := C.below.size
      obtain ⟨ln, hln⟩ : ∃ ln, 1 + lns A = ln := ⟨_, rfl⟩
      have HLN := Lib.hid hln
      rw [hln]
      have ln0 : 1 ≤ ln ∧ ln ≤ 61 := by omega
      clear hln
      by_cases hlt : i < n
      · have q2 : (i : Int) < (n : Int) := by omega
        obtain ⟨a, cap', e, hc1, hc2, hc3⟩ := HI.out.row
        cases e
        rcases hc3 with h0 | ⟨b, off, rfl, hbl, hc⟩
        · omega
        · obtain ⟨g0, g1, g2⟩ := HI.out.g i hlt
          have c0 : wr.cell? ⟨b, off + i * 3 + 0, none⟩ = some ((o i).cell 0) := (C.below.cell (p := ⟨b, _, none⟩) hbl).trans (hc i 0 hlt (by omega))
          have c1 : wr.cell? ⟨b, off + i * 3 + 1, none⟩ = some ((o i).cell 1) := (C.below.cell (p := ⟨b, _, none⟩) hbl).trans (hc i 1 hlt (by omega))
          have c2 : wr.cell? ⟨b, off + i * 3 + 2, none⟩ = some ((o i).cell 2) := (C.below.cell (p := ⟨b, _, none⟩) hbl).trans (hc i 2 hlt (by omega))
          have hbl2 : b < wr.heap.size := Nat.lt_of_lt_of_le hbl hbs
          clear hc
          generalize o i = x at *
          obtain ⟨k, t, g⟩ := x
          change wr.cell? ⟨b, off + i * 3 + 0, none⟩ = some (.int .i64 k) at c0
          change wr.cell? ⟨b, off + i * 3 + 1, none⟩ = some (.string t) at c1
          change wr.cell? ⟨b, off + i * 3 + 2, none⟩ = some (.int .u8 g) at c2
          simp only [Nat.add_zero] at c0
          simp only at g0 g1 g2
          have HC := Lib.hid C
          have HO := Lib.hid C.own
          clear C
          by_cases hs : 60 < t.size
          · have q3 : (60 : Int) < (t.size : Int) := by omega
            have HTr := Lib.hid (HT.out.below HC.out.below)
            have HB := Lib.hid HC.out.below
            clear hs g2
            go_wp2_with fail
            refine (works_calls _ HTr.out).mono ?_
            rintro e w1 ⟨rfl, hb⟩
            have HB2 := Lib.hid (HB.out.trans (hb.mono HB.out.size))
            clear hb
            go_wp2_with fail
            go_ret
            exact ⟨rfl, HB2.out⟩
          · have q3 : ¬ (60 : Int) < (t.size : Int) := by omega
            have hts : t.size ≤ 60 := by omega
            have HP := Lib.hid (put_calls k t 0 (by omega))
            obtain ⟨c, hcd⟩ : ∃ c, ptC k t.data.toList = c := ⟨_, rfl⟩
            obtain ⟨y, hy⟩ : ∃ y, ptT k t.data.toList = y := ⟨_, rfl⟩
            rw [hcd, hy] at HP
            have HCD := Lib.hid hcd
            have HY := Lib.hid hy
            clear hcd hy hs g2
            go_wp2_with fail
            go_region_held3 (fun w' => w'.cell? ⟨b, off + i * 3, none⟩ = some (.int .i64 k) ∧ w'.cell? ⟨b, off + i * 3 + 1, none⟩ = some (.string t) ∧ w'.cell? ⟨b, off + i * 3 + 2, none⟩ = some (.int .u8 g))
              (first
                | exact held2 (below_drew (Below.refl _ _)) hbl2 c0 c1 c2
                | exact held2 hb5 hbl2 c0 c1 c2)
              (first
                | (go_at_call 12; refine (HP.out _).mono ?_; rintro e w5 ⟨rfl, hb5⟩))
            replace hb5 : Below wr.heap.size wr w5 := ⟨hb5.os, hb5.tape, hb5.output, hb5.size, hb5.block⟩
            obtain ⟨d0, d1, d2⟩ := held2 hb5 hbl2 c0 c1 c2
            have HB5 := Lib.hid hb5
            have h5 := hb5.size
            have ho5 := own_below HO.out hb5
            have hbl5 : b < w5.heap.size := Nat.lt_of_lt_of_le hbl2 h5
            clear hb5 c0 c1 c2
            by_cases hc0 : c = 0
            · subst hc0
              have hyl : y.length ≤ 122 := by
                rw [← HY.out]
                have htl : t.data.toList.length ≤ 60 := hts
                rcases put_kinds HCD.out with ⟨_, _, e⟩ | ⟨_, _, e⟩ | ⟨_, _, e⟩ | ⟨_, _, e⟩ | ⟨_, _, e⟩
                · rw [e]; omega
                · rw [e]; have := esc_len t.data.toList; simp; omega
                all_goals rw [e]; simp
              have hgl := gapT_len g
              have hgn := gapN_range g
              have hsy := size_mk y
              have HG := Lib.hid (gap_calls g g0)
              have HX := Lib.hid (show (⟨(txt A).toArray⟩ : ByteArray) ++ ⟨y.toArray⟩ ++ ⟨(gapT g).toArray⟩ = ⟨(txt (A ++ [⟨k, t.data.toList, g⟩])).toArray⟩ by rw [bytes_add, bytes_add, txt_app, ← HY.out])
              have HL2 := Lib.hid (show ln + gapN g = 1 + lns (A ++ [⟨k, t.data.toList, g⟩]) by rw [lns_app, ← HLN.out, Int.add_assoc])
              have hs1 : ((⟨(txt A).toArray⟩ : ByteArray) ++ ⟨y.toArray⟩).size = (txt A).length + y.length := by rw [bytes_add, size_mk, List.length_append]
              have hs2 := size_mk (gapT g)
              obtain ⟨gt, hgt⟩ : ∃ gt, gapT g = gt := ⟨_, rfl⟩
              obtain ⟨gn, hgn2⟩ : ∃ gn, gapN g = gn := ⟨_, rfl⟩
              rw [hgt] at HG HX hs2 hgl
              rw [hgn2] at HG HL2 hgn
              clear hgt hgn2
              obtain ⟨N, hN⟩ : ∃ N, A.length = N := ⟨_, rfl⟩
              have HN := Lib.hid hN.symm
              rw [hN] at ho5 hAi htl
              have hN30 : N ≤ 30 := by omega
              have HA := Lib.hid (fun o => (World.ownsRow.alloc ho5 o : (w5.alloc o).drew.ownsRow w.heap.size 47 3 _ _ _))
              clear hN ho5
              go_wp2_with (go_at_call 16; refine (HG.out _).mono ?_; rintro e w6 ⟨rfl, hw6⟩; obtain rfl := hw6)
              go_region_law (refine step_append_lies _ rfl (.tmp 62) (.tmp 75) 28 rfl w.heap.size 47 i0 _ 3 32 Tryd.underlying28 hi hz0 hz1 hz2 rfl (by decide) _ _ _ rfl (HA.out _) ⟨w5.heap.size, 0, none⟩ 1 1 [.int .i64 k, .string t, .int .i64 ln] rfl rfl (three_fresh w5 _ _ _ _) (by simp [Value.oneCell']) (by omega) (by unfold maxLen; omega) (by omega) (by simp; omega) _ rfl ?_; intro g9 cap9 w9 own9 grow9 at9 _; have C1 := Lib.hid (HC.out.step (x := ⟨k, t.data.toList, g⟩) ⟨HCD.out, hts⟩ ((HB5.out.alloc h5 _).drew) HN.out (by rw [HLN.out]; exact own9) grow9); clear own9 grow9 at9)
              all_goals
                go_wp2_with fail
                go_roundw
                case rel => exact ⟨_, i + 1, by omega, by rw [HX.out], by rw [HL2.out], by go_num, C1.out⟩
                case measure => simp [intOf]; omega
            · have b0 : (c != 0) = true := by simpa using hc0
              have b1 : (c == 0) = false := by simpa using hc0
              have C1 := Lib.hid (HC.out.skip HB5.out)
              clear hc0 ho5
              go_wp2_with fail
              go_roundw
              case rel => exact ⟨A, i + 1, by omega, rfl, by rw [HLN.out], by go_num, C1.out⟩
              case measure => simp [intOf]; omega
      · obtain rfl : i = n := by omega
        have HTot := Lib.hid (total_txt C.ok (Nat.le_trans hAi hn))
        have HR := Lib.hid (read_calls ⟨(txt A).toArray⟩)
        have hown := C.own
        have HB := Lib.hid C.below
        obtain ⟨p2, c2, rfl, P2⟩ := own_pcs hown (wnt_len A 1).symm
        have HP2 := Lib.hid P2
        have HLn := Lib.hid (wnt_len A 1)
        clear hlt C hown P2 htl
        go_wp2_with fail
        refine (HR.out _).mono ?_
        rintro e w1 ⟨v1, u1, rfl, g1⟩
        rw [show (⟨(txt A).toArray⟩ : ByteArray).data.toList = txt A from rfl, HTot.out] at g1
        obtain rfl := g1.none rfl
        obtain ⟨p1, c1, rfl, P1⟩ := own_pcs (n := A.length) (xs := wnt 1 A) (by have := g1.own; rw [← HLn.out]; exact this) HLn.out.symm
        have HS := Lib.hid (same_calls (wnt 1 A) A.length HLn.out p1 p2 c1 c2 w1 P1 (HP2.out.kept g1.below))
        have HB1 := Lib.hid (HB.out.trans (g1.below.mono HB.out.size))
        clear g1 P1
        go_wp2_with fail
        refine HS.out.mono ?_
        rintro e w3 ⟨rfl, hb3⟩
        have HB3 := Lib.hid (HB1.out.trans (hb3.mono HB1.out.size))
        have HT3 := Lib.hid (HT.out.below HB3.out)
        clear hb3
        go_wp2_with fail
        refine (works_calls _ HT3.out).mono ?_
        rintro e w6 ⟨rfl, hb6⟩
        have HB6 := Lib.hid (HB3.out.trans (hb6.mono HB3.out.size))
        clear hb6
        go_wp2_with fail
        go_ret
        exact ⟨rfl, HB6.out⟩
end Go.Proofs.YtijnijlekidhcaaDoor.Lex

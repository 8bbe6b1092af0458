/-
Layer 15 (conf): a user.
Layer 15 (conf): a console.
Layer 15 (conf): a group.
Layer 15 (conf): what users may do.
Layer 15 (conf): a break sequence.
Layer 15 (conf): a statement without a block.
Layer 15 (conf): what is usual; a statement.
-/
import Derived.Test.YtajfdachpdkbcaaGreatDoorPack11
import Derived.Deep.AppendLies
import Derived.Deep.QuietTactic
import Derived.BigQuiet
section
namespace Go.Proofs.YtajfdachpdkbcaaGreatDoor.Conf
open Go.RowKit Go.Proofs.YtajfdachpdkbcaaGreatDoor.Own Go.Proofs.YtajfdachpdkbcaaGreatDoor.Rw Go.Proofs.YtajfdachpdkbcaaGreatDoor.Tree Go.Proofs.YtajfdachpdkbcaaGreatDoor.KM
open Go.Proofs.YtajfdachpdkbcaaGreatDoor.Lex (isW)

theorem info_usr : (Tryz.prog.info? 67).map (fun i => (i.zero, i.size, i.bytes)) = some (some (.agg #[.string ⟨#[]⟩, .string ⟨#[]⟩]), 2, 32) := by kernel_rfl
theorem new_news {w : World} {g : Nat} {cs : List Value} {T : TypeId} (h : w.heap[g]? = some (.cells cs.toArray T (0, 0))) : ∀ j u, cs[j]? = some u → w.cell? ((⟨g, 0, none⟩ : Addr).add j) = some u := by
  intro j u hu
  rw [add0, at_cell h, List.getElem?_toArray, hu]
theorem call_pos (t : Bool) (k : Nat) (a : Bs) : 0 ≤ callM t k a := by unfold callM; split; decide; split; decide; split <;> decide
set_option maxRecDepth 100000 in
set_option maxHeartbeats 4000000 in
theorem takeUser_few (args : List Bs) (n : Nat) (hn : n = args.length) (h2 : n ≠ 2) (p : Option Addr) (c : Nat) (B lb mb : Nat) (us : Cn) (cf : Cf) (w : World) :
    Calls Tryz.prog 86 #[.pointer (some ⟨lb, 0, none⟩), .slice p n c] w (TkPost B lb mb us (userM cf args) w) := by
  have HU := Lib.hid (show userM cf args = (3, cf) by
    unfold userM
    split
    · simp at hn; exact absurd hn h2
    · rfl)
  have q1 : ((n : Int) != 2) = true := by simp; omega
  unfold TkPost
  generalize userM cf args = r at *
  clear hn h2
  go_enter Tryz.func86, Tryz.ntmps86
  go_wp2_with fail
  go_ret
  rw [HU.out]
  exact ⟨rfl, Below.refl _ _, Kp.refl _, fun h => absurd (show (3 : Int) = 0 from h) (by decide)⟩
set_option maxRecDepth 100000 in
set_option maxHeartbeats 4000000 in
theorem takeUser_two (nm pw : Bs) (h1 : nm.length ≤ 65536) (h2 : pw.length ≤ 65536) (p : Option Addr) (c : Nat) (B lb mb : Nat) (us : Cn) (cf : Cf) (hcf : cf.usrs.length ≤ 65536) (w : World) (h : LdS B lb mb us cf w) (ht : TxB B w p c [nm, pw]) :
    Calls Tryz.prog 86 #[.pointer (some ⟨lb, 0, none⟩), .slice p 2 c] w (TkPost B lb mb us (userM cf [nm, pw]) w) := by
  obtain ⟨i0, hi, hz0, hz1, hz2⟩ := info_parts info_usr
  obtain ⟨b, o, rfl, hbB, hbw, hcell⟩ := ht.cells (by simp)
  have c0 : w.cell? ⟨b, o, none⟩ = some (.string ⟨nm.toArray⟩) := hcell 0 (by simp)
  have c1 : w.cell? ⟨b, o + 1, none⟩ = some (.string ⟨pw.toArray⟩) := hcell 1 (by simp)
  have hca := ht.tx.cap.1
  simp only [List.length_cons, List.length_nil] at hca
  obtain ⟨v0, v1, v2, v3, f, m, hL, hNm⟩ := h
  obtain ⟨pu, ku, rfl, -⟩ := own_rd hL.rows.usrs
  have HL := Lib.hid hL
  have HNm := Lib.hid hNm
  have HW := Lib.hid (Lex.wordy_calls ⟨pw.toArray⟩)
  rw [show (⟨pw.toArray⟩ : ByteArray).data.toList = pw from rfl] at HW
  have hlt := hL.lt
  have spw : (⟨pw.toArray⟩ : ByteArray).size = pw.length := List.size_toArray ..
  unfold TkPost
  clear hL hNm hcell ht
  cases hw : isW pw with
  | false =>
    have HU := Lib.hid (show userM cf [nm, pw] = (3, cf) by rw [userM, if_pos (.inl hw)])
    rw [hw] at HW
    generalize userM cf [nm, pw] = r at *
    clear hw
    go_enter Tryz.func86, Tryz.ntmps86
    go_wp2_with fail
    refine (HW.out _).mono ?_
    rintro e w1 ⟨rfl, hb1⟩
    have d1 := (hb1.cell (p := ⟨b, o + 1, none⟩) hbw).trans c1
    have B1 := Lib.hid hb1
    clear hb1
    go_wp2_with fail
    go_ret
    rw [HU.out]
    exact ⟨rfl, B1.out.mono hlt.2.2.1, kp_below B1.out, fun h => absurd (show (3 : Int) = 0 from h) (by decide)⟩
  | true =>
    rw [hw] at HW
    by_cases h32 : 32 < pw.length
    · have HU := Lib.hid (show userM cf [nm, pw] = (3, cf) by rw [userM, if_pos (.inr h32)])
      have q1 : (32 : Int) < (pw.length : Int) := by omega
      generalize userM cf [nm, pw] = r at *
      clear hw h32
      go_enter Tryz.func86, Tryz.ntmps86
      go_wp2_with fail
      refine (HW.out _).mono ?_
      rintro e w1 ⟨rfl, hb1⟩
      have d1 := (hb1.cell (p := ⟨b, o + 1, none⟩) hbw).trans c1
      have hbw1 := Nat.lt_of_lt_of_le hbw hb1.size
      have B1 := Lib.hid hb1
      clear hb1
      go_wp2_with fail
      go_ret
      rw [HU.out]
      exact ⟨rfl, B1.out.mono hlt.2.2.1, kp_below B1.out, fun h => absurd (show (3 : Int) = 0 from h) (by decide)⟩
    · have q1 : ¬ (32 : Int) < (pw.length : Int) := by omega
      have HU := Lib.hid (show userM cf [nm, pw] = if callM (takenU cf nm) cf.usrs.length nm = 0 then (0, { cf with usrs := cf.usrs ++ [(nm, pw)] }) else (callM (takenU cf nm) cf.usrs.length nm, cf) by rw [userM, if_neg (by simp [hw]; omega)])
      obtain ⟨k, hk⟩ : ∃ k, k = cf.usrs.length := ⟨_, rfl⟩
      have HC := Lib.hid (fun (w' : World) (hl : Ldr B w' lb mb v0 v1 (.slice pu k ku) v3 ⟨cf, us⟩ f m) => call_calls B lb mb v0 v1 (.slice pu k ku) v3 ⟨cf, us⟩ f m sUser nm (by decide) h1 _ (HNm.out nm).2.2 k w' hl)
      rw [← hk] at HL HU hcf
      have HK := Lib.hid hk
      have HPOS := Lib.hid (call_pos (takenU cf nm) k nm)
      generalize callM (takenU cf nm) k nm = cd at *
      generalize userM cf [nm, pw] = r at *
      unfold sUser at HC
      clear hw h32 hk
      go_enter Tryz.func86, Tryz.ntmps86
      go_wp2_with fail
      refine (HW.out _).mono ?_
      rintro e w1 ⟨rfl, hb1⟩
      have d0 := (hb1.cell (p := ⟨b, o, none⟩) hbw).trans c0
      have d1 := (hb1.cell (p := ⟨b, o + 1, none⟩) hbw).trans c1
      have hbw1 := Nat.lt_of_lt_of_le hbw hb1.size
      have B1 := Lib.hid hb1
      clear hb1 c0 c1 hbw
      go_wp2_with fail
      go_region
      have N5 := Lib.hid (show (w1.alloc (.cells #[.string ⟨nm.toArray⟩, .string ⟨pw.toArray⟩] 67)).drew.heap[w1.heap.size]? = _ from at_new w1 (.cells #[.string ⟨nm.toArray⟩, .string ⟨pw.toArray⟩] 67))
      have A5 : Hid (Below w1.heap.size w1 (w1.alloc (.cells #[.string ⟨nm.toArray⟩, .string ⟨pw.toArray⟩] 67)).drew) := Lib.hid ((Below.refl w1.heap.size w1).alloc (Nat.le_refl _) _).drew
      generalize (w1.alloc (.cells #[.string ⟨nm.toArray⟩, .string ⟨pw.toArray⟩] 67)).drew = W2 at *
      have hg5 : w.heap.size ≤ w1.heap.size := B1.out.size
      generalize w1.heap.size = g5 at *
      have A2 := Lib.hid (B1.out.trans (A5.out.mono hg5))
      have L2 := Lib.hid (HL.out.below A2.out)
      have u0 := (at_cell N5.out 0 : _ = some (Value.string ⟨nm.toArray⟩))
      have m2 := L2.out.c2
      have l5 := at_lt N5.out
      have lL2 := L2.out.lt
      clear d0 d1 hbw1
      go_wp2_with fail
      go_still_tail 9, (by kernel_rfl)
      change wpList _ _ _ _ _ W2.drew
      go_wp2_with fail
      refine (HC.out _ (L2.out.below (Below.refl W2.heap.size W2).drew)).mono ?_
      rintro e w5 ⟨rfl, ho5, hcn⟩
      have O5 : Hid (Out (fun k => k = mb) W2 w5) := Lib.hid ⟨ho5.os, ho5.tape, ho5.output, ho5.size, ho5.block⟩
      have hB5 := Lib.hid ((A2.out.mono hlt.2.2.1).trans (O5.out.below lL2.2.2.1 fun k e => by have := L2.out.low; omega))
      have hK5 := Lib.hid ((kp_below A2.out).trans (kp_map L2.out.map O5.out))
      clear ho5
      by_cases hc0 : cd = 0
      · have HU2 := Lib.hid (show r = (0, { cf with usrs := cf.usrs ++ [(nm, pw)] }) by rw [HU.out, if_pos hc0])
        subst hc0
        obtain ⟨f', n', hl5, hf'⟩ := hcn
        obtain rfl := hf' rfl
        have ng : g5 ≠ mb := by omega
        have N6 := O5.out.at_ N5.out ng
        have x0 := (at_cell N6 0 : _ = some (Value.string ⟨nm.toArray⟩))
        have x1 := (at_cell N6 1 : _ = some (Value.string ⟨pw.toArray⟩))
        have y2 := hl5.c2
        have l6 := at_lt N6
        have l7 := hl5.lt
        have hown := hl5.rows.usrs
        rw [← show k = cf.usrs.length from HK.out] at hown
        have hownA : (w5.alloc (.cells #[.string ⟨nm.toArray⟩, .string ⟨pw.toArray⟩] 67)).drew.ownsRow B 67 2 (.slice pu k ku) k (cf.usrs.flatMap urv) := World.ownsRow.alloc hown _
        have HNW := Lib.hid (new_news (w := (w5.alloc (.cells #[.string ⟨nm.toArray⟩, .string ⟨pw.toArray⟩] 67)).drew) (cs := [.string ⟨nm.toArray⟩, .string ⟨pw.toArray⟩]) (at_new w5 (.cells #[.string ⟨nm.toArray⟩, .string ⟨pw.toArray⟩] 67)))
        have HADD := Lib.hid fun (w2 : World) (g cap : Nat) (own2 : w2.ownsRow B 67 2 (.slice (some ⟨g, 0, none⟩) (k + 1) cap) (k + 1) (cf.usrs.flatMap urv ++ [.string ⟨nm.toArray⟩, .string ⟨pw.toArray⟩])) (grow : (w5.alloc (.cells #[.string ⟨nm.toArray⟩, .string ⟨pw.toArray⟩] 67)).drew.grownBy w2 (Value.slice pu k ku).ownBlock) =>
          hl5.add_usrs (nm, pw) (v' := .slice (some ⟨g, 0, none⟩) (k + 1) cap) (((Below.refl w5.heap.size w5).alloc (Nat.le_refl _) _).drew) (by rw [HK.out] at own2; rw [HK.out]; exact own2) grow
        have HNN := Lib.hid (names_usr (x := (nm, pw)) HNm.out)
        have hBw := l7.2.2.1
        clear hown hl5 N6 u0 m2 hf'
        go_wp2_with fail
        go_region_law (refine step_append_lies _ rfl (.tmp 48) (.tmp 50) 25 rfl B 67 i0 _ 2 32 Tryz.underlying25 hi hz0 hz1 hz2 rfl (by decide) _ _ _ rfl hownA ⟨w5.heap.size, 0, none⟩ 1 1 [.string ⟨nm.toArray⟩, .string ⟨pw.toArray⟩] rfl rfl HNW.out (by simp [Value.oneCell']) (by omega) (by unfold maxLen; omega) (by omega) (by simp; omega) _ rfl ?_; intro g cap w2 own2 grow2 at2 _; obtain ⟨⟨z0, z1, z2⟩, L6, B6⟩ := HADD.out w2 g cap own2 grow2)
        all_goals
          have L6 := Lib.hid L6
          have B6 := Lib.hid B6
          clear z0 z1 z2 x0 x1 y2 l6 l7 hownA
          go_wp2_with fail
          go_ret
          rw [HU2.out]
          exact ⟨rfl, hB5.out.trans B6.out.1, hK5.out.trans B6.out.2, fun _ => ⟨_, _, _, _, _, _, L6.out, HNN.out⟩⟩
      · have HCN := Lib.hid hc0
        have q5 : 0 < cd := by have := HPOS.out; omega
        clear hc0 hcn u0 m2
        have b1 : (cd == 0) = false := by simp; omega
        go_wp2_with fail
        go_ret
        rw [HU.out, if_neg HCN.out]
        exact ⟨rfl, hB5.out, hK5.out, fun h => absurd h HCN.out⟩
end Go.Proofs.YtajfdachpdkbcaaGreatDoor.Conf
end

section
namespace Go.Proofs.YtajfdachpdkbcaaGreatDoor.Conf
open Go.RowKit Go.Proofs.YtajfdachpdkbcaaGreatDoor.Own Go.Proofs.YtajfdachpdkbcaaGreatDoor.Rw Go.Proofs.YtajfdachpdkbcaaGreatDoor.Tree Go.Proofs.YtajfdachpdkbcaaGreatDoor.KM

/-- what a statement leaves -/
inductive TsPost (B lb mb : Nat) (w : World) : Rz Sa → Ending → World → Prop
  | bad {v : Value} {c l : Int} {w' : World} (he : Er w' v c l) (hb : Below B w w') : TsPost B lb mb w (.bad c l) (.returned v) w'
  | ok {s : Sa} {w' : World} (h : LdS B lb mb s.us s.cf w') (hb : Below B w w') : TsPost B lb mb w (.ok s) (.returned .nilIface) w'
theorem info_con : (Tryz.prog.info? 42).map (fun i => (i.zero, i.size, i.bytes)) = some (some (.agg #[.string ⟨#[]⟩, .int .i64 0, .int .i64 0, .int .i64 0, .int .i64 0, .int .i64 0, .int .i64 0, .int .i64 0, .int .i64 0, .string ⟨#[]⟩]), 10, 96) := by kernel_rfl
set_option maxRecDepth 100000 in
set_option maxHeartbeats 4000000 in
theorem takeCon_bad (key : Bs) (pa pl : Option Addr) (na ca nl cl : Nat) (block : Bool) (hb : block = false ∨ na ≠ 1) (line : Int) (B lb mb : Nat) (w : World) (hB : B ≤ w.heap.size) :
    Calls Tryz.prog 48 #[.pointer (some ⟨lb, 0, none⟩), ndV key pa na ca block pl nl cl line] w (TsPost B lb mb w (.bad 3 line)) := by
  have BA := Lib.hid ((Below.refl w.heap.size w).alloc (Nat.le_refl _) (.cells (ndA key pa na ca block pl nl cl line) 57))
  have HW := Lib.hid (wrong_some key pa pl na ca nl cl block line 3 (by decide))
  have HB := Lib.hid hB
  unfold ndA at BA
  unfold ndV at HW ⊢
  cases block with
  | false =>
    clear hb
    go_enter Tryz.func48, Tryz.ntmps48
    go_wp2_with fail
    refine (HW.out _).mono ?_
    rintro e w1 ⟨⟨g, rfl, hf, hg⟩, hb1⟩
    have B1 := Lib.hid (BA.out.trans (hb1.mono BA.out.size))
    clear hb1
    go_wp2_with fail
    go_ret
    exact TsPost.bad ⟨g, rfl, hf⟩ (B1.out.mono HB.out)
  | true =>
    have q1 : ((na : Int) != 1) = true := by
      rcases hb with hb | hb
      · cases hb
      · simp; omega
    clear hb
    go_enter Tryz.func48, Tryz.ntmps48
    go_wp2_with fail
    refine (HW.out _).mono ?_
    rintro e w1 ⟨⟨g, rfl, hf, hg⟩, hb1⟩
    have B1 := Lib.hid (BA.out.trans (hb1.mono BA.out.size))
    clear hb1
    go_wp2_with fail
    go_ret
    exact TsPost.bad ⟨g, rfl, hf⟩ (B1.out.mono HB.out)

theorem Ldr.ldk {B : Nat} {w w' : World} {lb mb : Nat} {p : Option Addr} {k : Nat} {v1 v2 v3 : Value} {s : Sa} {f : Nm → Option Value} {n : Nat} (h : Ldr B w lb mb (.slice p s.cf.cons.length k) v1 v2 v3 s f n) (hr : Rd w 10 p k s.cf.cons.length (s.cf.cons.flatMap cnv)) (ho : Below w.heap.size w w') (b : Nat) (hb : w.heap.size ≤ b) (pre : List Value) (hp : ∀ a, p = some a → a.block < w.heap.size) :
    LdK w' lb b pre p k v1 v2 v3 s.cf.brks s.cf.cons := by
  have h' := h.below ho
  refine ⟨h'.lt.1, fun i x hx => h'.cell ?_, hr.below ho, fun a e => by have := hp a e; omega, fun e => by have := h.lt.1; omega, h.ten⟩
  have hi := (List.getElem?_eq_some_iff.1 hx).1
  rw [← hx]
  have e : (Value.slice p s.cf.cons.length k :: v1 :: v2 :: v3 :: (strs s.cf.brks ++ (cnv s.us ++ [.map (some mb)]))) = (Value.slice p s.cf.cons.length k :: v1 :: v2 :: v3 :: strs s.cf.brks) ++ (cnv s.us ++ [.map (some mb)]) := by simp
  rw [e, List.getElem?_append_left hi]
theorem own_rd2 {w : World} {B k n : Nat} {e : TypeId} {v : Value} {xs : List Value} (h : w.ownsRow B e k v n xs) : ∃ p c, v = .slice p n c ∧ Rd w k p c n xs ∧ (∀ a, p = some a → a.block < w.heap.size) := by
  obtain ⟨p, c, rfl, hr⟩ := own_rd h
  exact ⟨p, c, rfl, hr, fun a e => (own_lt h (k := a.block) (by rw [e]; rfl)).2⟩

theorem num_name {x y : Cn} {a : Bs} {lo hi : Int} (h : y.name = x.name) : (numM x a lo hi y).2.name = x.name := by
  unfold numM
  split
  · rfl
  · split
    · exact h
    · rfl
theorem set_name (cs : List Cn) (x : Cn) (key : Bs) (args : List Bs) (b : Bool) : (setM cs x key args b).2.name = x.name := by
  unfold setM
  split
  · rfl
  split
  · unfold retryM
    split
    · split
      · rfl
      · split <;> rfl
    · rfl
  split
  · unfold oneM
    split
    · unfold kindM; split; rfl; split <;> rfl
    split
    · exact num_name rfl
    split
    · exact num_name rfl
    split
    · exact num_name rfl
    split
    · exact num_name rfl
    split
    · unfold initM; split <;> rfl
    split
    · unfold likeM; split <;> rfl
    rfl
  · rfl
theorem sets_name (cs : List Cn) : ∀ (L : List Nd) (x y : Cn), setsM cs x L = .ok y → y.name = x.name
  | [], x, y, h => by cases h; rfl
  | n :: r, x, y, h => by
    rw [setsM] at h
    split at h
    · rw [sets_name cs r _ y h, set_name]
    · cases h
set_option maxRecDepth 100000 in
set_option maxHeartbeats 4000000 in
theorem takeCon_one (nm : Bs) (h1 : nm.length ≤ 65536) (L : List Nd) (hL : wbL L ≤ 65536) (n : Nat) (hn : n = L.length) (pa pl : Option Addr) (ca cl : Nat) (line : Int) (B lb mb : Nat) (s : Sa) (hcf : s.cf.cons.length ≤ 65536) (w : World) (h : LdS B lb mb s.us s.cf w) (ht : TxB B w pa ca [nm]) (hl : Nl B w (.slice pl n cl) L) :
    Calls Tryz.prog 48 #[.pointer (some ⟨lb, 0, none⟩), ndV sConsole pa 1 ca true pl n cl line] w (TsPost B lb mb w (conM s (.mk sConsole [nm] true L line))) := by
  obtain ⟨i0, hi, hz0, hz1, hz2⟩ := info_parts info_con
  obtain ⟨b, o, rfl, hbB, hbw, hcell⟩ := ht.cells (by simp)
  have c0 : w.cell? ⟨b, o, none⟩ = some (.string ⟨nm.toArray⟩) := hcell 0 (by simp)
  have hca : 1 ≤ ca := ht.tx.cap.1
  obtain ⟨v0, v1, v2, v3, f, m, hLd, hNm⟩ := h
  obtain ⟨cf, us⟩ := s
  dsimp only at hLd hNm hcf
  obtain ⟨pu, ku, rfl, hrd, hpu⟩ := own_rd2 hLd.rows.cons
  have HL := Lib.hid hLd
  have HNm := Lib.hid hNm
  have HNl := Lib.hid hl
  have hlt := hLd.lt
  have BA := Lib.hid ((Below.refl w.heap.size w).alloc (Nat.le_refl _) (.cells (ndA sConsole (some ⟨b, o, none⟩) 1 ca true pl n cl line) 57))
  have NA := Lib.hid (at_new w (.cells (ndA sConsole (some ⟨b, o, none⟩) 1 ca true pl n cl line) 57))
  obtain ⟨r, hr⟩ : ∃ r, conM ⟨cf, us⟩ (.mk sConsole [nm] true L line) = r := ⟨_, rfl⟩
  have HR := Lib.hid (show r = if callM (takenC cf nm) cf.cons.length nm ≠ 0 then .bad (callM (takenC cf nm) cf.cons.length nm) line else
      match setsM cf.cons { us with name := nm } L with
      | .bad c l => .bad c l
      | .ok x => .ok ⟨{ cf with cons := cf.cons ++ [x] }, us⟩ by rw [← hr]; rfl)
  rw [hr]
  obtain ⟨k, hk⟩ : ∃ k, k = cf.cons.length := ⟨_, rfl⟩
  have HC := Lib.hid (fun (w' : World) (hl : Ldr B w' lb mb (.slice pu k ku) v1 v2 v3 ⟨cf, us⟩ f m) => call_calls B lb mb (.slice pu k ku) v1 v2 v3 ⟨cf, us⟩ f m sConsole nm (by decide) h1 _ (HNm.out nm).1 k w' hl)
  have HW := Lib.hid (wrong_some sConsole (some ⟨b, o, none⟩) pl 1 ca n cl true line)
  rw [← hk] at HL HR hcf
  have HK := Lib.hid hk
  have HPOS := Lib.hid (call_pos (takenC cf nm) k nm)
  generalize callM (takenC cf nm) k nm = cd at *
  unfold sConsole at HC HW
  unfold ndA sConsole at BA NA
  unfold ndV at HW ⊢
  unfold sConsole
  have HLn := Lib.hid hn
  have HLL := Lib.hid hL
  clear hLd hNm hcell ht hk hl hrd hpu hr hn hL
  have d0 := (BA.out.cell (p := ⟨b, o, none⟩) hbw).trans c0
  have hbw1 := Nat.lt_of_lt_of_le hbw BA.out.size
  have m0 := (BA.out.cell (p := ⟨lb, 0, none⟩) hlt.1).trans HL.out.c0
  have lA : lb < (w.alloc (.cells #[.string ⟨#[99, 111, 110, 115, 111, 108, 101]⟩, .slice (some ⟨b, o, none⟩) 1 ca, .bool true, .slice pl n cl, .int .i64 line] 57)).heap.size := Nat.lt_of_lt_of_le hlt.1 BA.out.size
  clear c0 hbw
  go_enter Tryz.func48, Tryz.ntmps48
  go_wp2_with fail
  obtain ⟨W, hW⟩ : ∃ W, W = w.alloc (.cells #[.string ⟨#[99, 111, 110, 115, 111, 108, 101]⟩, .slice (some ⟨b, o, none⟩) 1 ca, .bool true, .slice pl n cl, .int .i64 line] 57) := ⟨_, rfl⟩
  rw [← hW] at NA BA d0 hbw1 m0 lA ⊢
  clear hW
  have hzW := BA.out.size
  generalize hg8 : w.heap.size = g8 at *
  have LW := Lib.hid (HL.out.below (by rw [hg8]; exact BA.out))
  have lW := LW.out.lt
  have l8 := at_lt NA.out
  refine (HC.out _ LW.out).mono ?_
  rintro e w5 ⟨rfl, ho5, hcn⟩
  have O5 := Lib.hid ho5
  have ng8 : g8 ≠ mb := by omega
  have N5 := Lib.hid (O5.out.at_ NA.out ng8)
  have x0 := (at_cell N5.out 0 : _ = some (Value.string ⟨#[99, 111, 110, 115, 111, 108, 101]⟩))
  have x1 := (at_cell N5.out 1 : _ = some (Value.slice (some ⟨b, o, none⟩) 1 ca))
  have x2 := (at_cell N5.out 2 : _ = some (Value.bool true))
  have x3 := (at_cell N5.out 3 : _ = some (Value.slice pl n cl))
  have x4 := (at_cell N5.out 4 : _ = some (Value.int .i64 line))
  have l85 := at_lt N5.out
  have B5 := Lib.hid ((BA.out.mono hlt.2.2.1).trans (O5.out.below lW.2.2.1 fun k e => by have := LW.out.low; omega))
  clear ho5 d0 hbw1 m0 lA
  by_cases hc0 : cd = 0
  · obtain ⟨f', m', hl5, hf'⟩ := hcn
    have hfe := hf' hc0
    clear hf'
    subst hfe
    have HR2 := Lib.hid (show r = match setsM cf.cons { us with name := nm } L with
      | .bad c l => .bad c l
      | .ok x => .ok ⟨{ cf with cons := cf.cons ++ [x] }, us⟩ by rw [HR.out, if_neg (by simpa using hc0)])
    subst hc0
    have L5 := Lib.hid hl5
    have l5 := hl5.lt
    have u0 : w5.cell? ⟨lb, 14, none⟩ = some (.string ⟨us.name.toArray⟩) := hl5.us (j := 0) rfl (by omega)
    have u1 : w5.cell? ⟨lb, 15, none⟩ = some (.int .i64 us.kind) := hl5.us (j := 1) rfl (by omega)
    have u2 : w5.cell? ⟨lb, 16, none⟩ = some (.int .i64 us.lines) := hl5.us (j := 2) rfl (by omega)
    have u3 : w5.cell? ⟨lb, 17, none⟩ = some (.int .i64 us.bytes) := hl5.us (j := 3) rfl (by omega)
    have u4 : w5.cell? ⟨lb, 18, none⟩ = some (.int .i64 us.gens) := hl5.us (j := 4) rfl (by omega)
    have u5 : w5.cell? ⟨lb, 19, none⟩ = some (.int .i64 us.size) := hl5.us (j := 5) rfl (by omega)
    have u6 : w5.cell? ⟨lb, 20, none⟩ = some (.int .i64 us.base) := hl5.us (j := 6) rfl (by omega)
    have u7 : w5.cell? ⟨lb, 21, none⟩ = some (.int .i64 us.cap) := hl5.us (j := 7) rfl (by omega)
    have u8 : w5.cell? ⟨lb, 22, none⟩ = some (.int .i64 us.jit) := hl5.us (j := 8) rfl (by omega)
    have u9 : w5.cell? ⟨lb, 23, none⟩ = some (.string ⟨us.init.toArray⟩) := hl5.us (j := 9) rfl (by omega)
    clear hl5
    go_wp2_with fail
    clear u0 u1 u2 u3 u4 u5 u6 u7 u8 u9 x0 x1 x2 x3 x4
    have A6 := Lib.hid ((Below.refl w5.heap.size w5).alloc (Nat.le_refl _) (.cells #[.string ⟨nm.toArray⟩, .int .i64 us.kind, .int .i64 us.lines, .int .i64 us.bytes, .int .i64 us.gens, .int .i64 us.size, .int .i64 us.base, .int .i64 us.cap, .int .i64 us.jit, .string ⟨us.init.toArray⟩] 42))
    have T6 := Lib.hid (show Tgt _ w5.heap.size 42 [] { us with name := nm } [] from at_new w5 (.cells #[.string ⟨nm.toArray⟩, .int .i64 us.kind, .int .i64 us.lines, .int .i64 us.bytes, .int .i64 us.gens, .int .i64 us.size, .int .i64 us.base, .int .i64 us.cap, .int .i64 us.jit, .string ⟨us.init.toArray⟩] 42))
    generalize w5.alloc (.cells #[.string ⟨nm.toArray⟩, .int .i64 us.kind, .int .i64 us.lines, .int .i64 us.bytes, .int .i64 us.gens, .int .i64 us.size, .int .i64 us.base, .int .i64 us.cap, .int .i64 us.jit, .string ⟨us.init.toArray⟩] 42) = W6 at *
    have L5c : Ldr B w5 lb mb (.slice pu cf.cons.length ku) v1 v2 v3 ⟨cf, us⟩ (put f ([99, 111, 110, 115, 111, 108, 101], nm) (.agg #[])) m' := by rw [← show k = cf.cons.length from HK.out]; exact L5.out
    obtain ⟨pu', ku', epu, hrd5, hpu5⟩ := own_rd2 L5c.rows.cons
    injection epu with e1 z1 e2
    subst e1 e2
    clear z1
    have K6 := L5c.ldk hrd5 A6.out w5.heap.size (Nat.le_refl _) [] hpu5
    have B6 := Lib.hid (B5.out.trans (A6.out.mono l5.2.2.1))
    have HS := Lib.hid (setAll_calls L n HLn.out HLL.out B pl cl lb w5.heap.size 0 l5.2.2.1 42 [] [] { us with name := nm } rfl pu ku v1 v2 v3 cf.brks cf.cons W6 T6.out K6 (HNl.out.keep B6.out))
    obtain ⟨rr, hrr⟩ : ∃ rr, setsM cf.cons { us with name := nm } L = rr := ⟨_, rfl⟩
    rw [hrr] at HS HR2
    have HRR := Lib.hid hrr
    obtain ⟨gx, hgx⟩ : ∃ gx, gx = w5.heap.size := ⟨_, rfl⟩
    rw [← hgx] at HS A6 T6 ⊢
    clear hrr hrd5 hpu5 L5c K6
    refine HS.out.mono ?_
    intro e w7 hp
    have B57 : ∀ {w7 : World}, Out (fun k => k = gx) W6 w7 → Below gx w5 w7 := fun ho => A6.out.trans (ho.below (by have := A6.out.size; omega) fun k e => by have e : k = gx := e; omega)
    cases hp with
    | @bad v c l _ he ho =>
      obtain ⟨g, rfl, hf⟩ := he
      have B7 := Lib.hid (B5.out.trans ((B57 ho).mono (by have := l5.2.2.1; omega)))
      have HR3 := Lib.hid (show r = .bad c l from HR2.out)
      clear ho
      go_wp2_with fail
      go_ret
      rw [HR3.out]
      exact TsPost.bad ⟨g, rfl, hf⟩ B7.out
    | @ok x _ ho ht =>
      have B7 := Lib.hid (B57 ho)
      subst hgx
      have L7 := Lib.hid (L5.out.below B7.out)
      have HR3 := Lib.hid (show r = .ok ⟨{ cf with cons := cf.cons ++ [x] }, us⟩ from HR2.out)
      have HX := Lib.hid (show x.name = nm from sets_name _ _ _ _ HRR.out)
      have ht2 : w7.heap[w5.heap.size]? = some (.cells #[.string ⟨x.name.toArray⟩, .int .i64 x.kind, .int .i64 x.lines, .int .i64 x.bytes, .int .i64 x.gens, .int .i64 x.size, .int .i64 x.base, .int .i64 x.cap, .int .i64 x.jit, .string ⟨x.init.toArray⟩] 42 (0, 0)) := ht
      have s0 := (at_cell ht2 0 : _ = some (Value.string ⟨x.name.toArray⟩))
      have s1 := (at_cell ht2 1 : _ = some (Value.int .i64 x.kind))
      have s2 := (at_cell ht2 2 : _ = some (Value.int .i64 x.lines))
      have s3 := (at_cell ht2 3 : _ = some (Value.int .i64 x.bytes))
      have s4 := (at_cell ht2 4 : _ = some (Value.int .i64 x.gens))
      have s5 := (at_cell ht2 5 : _ = some (Value.int .i64 x.size))
      have s6 := (at_cell ht2 6 : _ = some (Value.int .i64 x.base))
      have s7 := (at_cell ht2 7 : _ = some (Value.int .i64 x.cap))
      have s8 := (at_cell ht2 8 : _ = some (Value.int .i64 x.jit))
      have s9 := (at_cell ht2 9 : _ = some (Value.string ⟨x.init.toArray⟩))
      have sl := at_lt ht2
      have y0 := L7.out.c0
      have l7 := L7.out.lt
      have hown := L7.out.rows.cons
      rw [← show k = cf.cons.length from HK.out] at hown
      have hownA : (w7.alloc (.cells #[.string ⟨x.name.toArray⟩, .int .i64 x.kind, .int .i64 x.lines, .int .i64 x.bytes, .int .i64 x.gens, .int .i64 x.size, .int .i64 x.base, .int .i64 x.cap, .int .i64 x.jit, .string ⟨x.init.toArray⟩] 42)).drew.ownsRow B 42 10 (.slice pu k ku) k (cf.cons.flatMap cnv) := World.ownsRow.alloc hown _
      have HNW := Lib.hid (new_news (w := (w7.alloc (.cells #[.string ⟨x.name.toArray⟩, .int .i64 x.kind, .int .i64 x.lines, .int .i64 x.bytes, .int .i64 x.gens, .int .i64 x.size, .int .i64 x.base, .int .i64 x.cap, .int .i64 x.jit, .string ⟨x.init.toArray⟩] 42)).drew) (cs := [.string ⟨x.name.toArray⟩, .int .i64 x.kind, .int .i64 x.lines, .int .i64 x.bytes, .int .i64 x.gens, .int .i64 x.size, .int .i64 x.base, .int .i64 x.cap, .int .i64 x.jit, .string ⟨x.init.toArray⟩]) (at_new w7 (.cells #[.string ⟨x.name.toArray⟩, .int .i64 x.kind, .int .i64 x.lines, .int .i64 x.bytes, .int .i64 x.gens, .int .i64 x.size, .int .i64 x.base, .int .i64 x.cap, .int .i64 x.jit, .string ⟨x.init.toArray⟩] 42)))
      have HADD := Lib.hid fun (w2 : World) (g cap : Nat) (own2 : w2.ownsRow B 42 10 (.slice (some ⟨g, 0, none⟩) (k + 1) cap) (k + 1) (cf.cons.flatMap cnv ++ [.string ⟨x.name.toArray⟩, .int .i64 x.kind, .int .i64 x.lines, .int .i64 x.bytes, .int .i64 x.gens, .int .i64 x.size, .int .i64 x.base, .int .i64 x.cap, .int .i64 x.jit, .string ⟨x.init.toArray⟩])) (grow : (w7.alloc (.cells #[.string ⟨x.name.toArray⟩, .int .i64 x.kind, .int .i64 x.lines, .int .i64 x.bytes, .int .i64 x.gens, .int .i64 x.size, .int .i64 x.base, .int .i64 x.cap, .int .i64 x.jit, .string ⟨x.init.toArray⟩] 42)).drew.grownBy w2 (Value.slice pu k ku).ownBlock) =>
        L7.out.add_cons x (v' := .slice (some ⟨g, 0, none⟩) (k + 1) cap) (((Below.refl w7.heap.size w7).alloc (Nat.le_refl _) _).drew) (by rw [HK.out] at own2; rw [HK.out]; exact own2) grow
      have HNN := Lib.hid (names_con (x := x) HNm.out)
      rw [HX.out] at HNN
      have hBw := l7.2.2.1
      have HB7 := Lib.hid (B5.out.trans (B7.out.mono (by have := l5.2.2.1; omega)))
      clear hown ht2 ht ho B57
      go_wp2_with fail
      go_region_law (refine step_append_lies _ rfl (.tmp 56) (.tmp 58) 23 rfl B 42 i0 _ 10 96 Tryz.underlying23 hi hz0 hz1 hz2 rfl (by decide) _ _ _ rfl hownA ⟨w7.heap.size, 0, none⟩ 1 1 [.string ⟨x.name.toArray⟩, .int .i64 x.kind, .int .i64 x.lines, .int .i64 x.bytes, .int .i64 x.gens, .int .i64 x.size, .int .i64 x.base, .int .i64 x.cap, .int .i64 x.jit, .string ⟨x.init.toArray⟩] rfl rfl HNW.out (by simp [Value.oneCell']) (by omega) (by unfold maxLen; omega) (by omega) (by simp; omega) _ rfl ?_; intro g cap w2 own2 grow2 at2 _; obtain ⟨⟨z0, z1, z2⟩, L8, B8⟩ := HADD.out w2 g cap own2 grow2)
      all_goals
        have L8 := Lib.hid L8
        have B8 := Lib.hid B8
        clear z0 z1 z2 s0 s1 s2 s3 s4 s5 s6 s7 s8 s9 y0 l7 hownA
        go_wp2_with fail
        go_ret
        rw [HR3.out]
        exact TsPost.ok ⟨_, _, _, _, _, _, L8.out, HNN.out⟩ (HB7.out.trans B8.out.1)
  · have HN := Lib.hid hc0
    have q5 : 0 < cd := by have := HPOS.out; omega
    have HW5 := Lib.hid (HW.out cd hc0)
    have HR2 := Lib.hid (show r = .bad cd line by rw [HR.out, if_pos hc0])
    clear hc0 hcn
    go_wp2_with fail
    refine (HW5.out _).mono ?_
    rintro e w6 ⟨⟨g, rfl, hf, hg⟩, hb6⟩
    have B6 := Lib.hid (B5.out.trans (hb6.mono (by have := O5.out.size; have := lW.2.2.1; omega)))
    clear hb6
    go_wp2_with fail
    go_ret
    rw [HR2.out]
    exact TsPost.bad ⟨g, rfl, hf⟩ B6.out
end Go.Proofs.YtajfdachpdkbcaaGreatDoor.Conf
end

section
namespace Go.Proofs.YtajfdachpdkbcaaGreatDoor.Conf
open Go.RowKit Go.Proofs.YtajfdachpdkbcaaGreatDoor.Own Go.Proofs.YtajfdachpdkbcaaGreatDoor.Rw Go.Proofs.YtajfdachpdkbcaaGreatDoor.Tree Go.Proofs.YtajfdachpdkbcaaGreatDoor.KM
open Go.Proofs.YtajfdachpdkbcaaGreatDoor.Word (isName isPat)

theorem info_grp : (Tryz.prog.info? 65).map (fun i => (i.zero, i.size, i.bytes)) = some (some (.agg #[.string ⟨#[]⟩, .slice none 0 0]), 2, 40) := by kernel_rfl
theorem tx_tail {B : Nat} {w : World} {b o c : Nat} {t : Bs} {ts : List Bs} (h : TxB B w (some ⟨b, o, none⟩) c (t :: ts)) : TxB B w (some ⟨b, o + 1, none⟩) (c - 1) ts := by
  have h1 := h.tx.cap
  rw [List.length_cons] at h1
  refine ⟨⟨by rw [strs_len]; omega, by omega, ?_⟩, fun a e => by cases e; exact (show b < B from h.low ⟨b, o, none⟩ rfl), fun e => by cases e⟩
  rcases h.tx.row.cells with h0 | ⟨b', o', e, hl, k⟩
  · cases h0
  · cases e
    refine .inr ⟨b, o + 1, rfl, hl, fun i x hx => ?_⟩
    have := k (i + 1) x (by simpa [strs] using hx)
    rwa [show o + (i + 1) = o + 1 + i by omega] at this
set_option maxRecDepth 100000 in
set_option maxHeartbeats 4000000 in
theorem takeGroup_few (args : List Bs) (n : Nat) (hn : n = args.length) (h2 : n < 2) (p : Option Addr) (c : Nat) (B lb mb : Nat) (us : Cn) (cf : Cf) (w : World) :
    Calls Tryz.prog 85 #[.pointer (some ⟨lb, 0, none⟩), .slice p n c] w (TkPost B lb mb us (groupM cf args) w) := by
  have HU := Lib.hid (show groupM cf args = (3, cf) by
    unfold groupM
    split
    · simp at hn; omega
    · rfl)
  have q1 : (n : Int) < 2 := by omega
  unfold TkPost
  generalize groupM cf args = r at *
  clear hn h2
  go_enter Tryz.func85, Tryz.ntmps85
  go_wp2_with fail
  go_ret
  rw [HU.out]
  exact ⟨rfl, Below.refl _ _, Kp.refl _, fun h => absurd (show (3 : Int) = 0 from h) (by decide)⟩
set_option maxRecDepth 100000 in
set_option maxHeartbeats 4000000 in
theorem takeGroup_more (nm p1 : Bs) (ps : List Bs) (h1 : nm.length ≤ 65536) (n : Nat) (hn : n = ps.length + 2) (p : Option Addr) (c : Nat) (B lb mb : Nat) (us : Cn) (cf : Cf) (hcf : cf.grps.length ≤ 65536) (w : World) (h : LdS B lb mb us cf w) (ht : TxB B w p c (nm :: p1 :: ps)) :
    Calls Tryz.prog 85 #[.pointer (some ⟨lb, 0, none⟩), .slice p n c] w (TkPost B lb mb us (groupM cf (nm :: p1 :: ps)) w) := by
  obtain ⟨i0, hi, hz0, hz1, hz2⟩ := info_parts info_grp
  obtain ⟨b, o, rfl, hbB, hbw, hcell⟩ := ht.cells (by simp)
  have c0 : w.cell? ⟨b, o, none⟩ = some (.string ⟨nm.toArray⟩) := hcell 0 (by simp)
  have hca := ht.tx.cap.1
  have hcm := ht.tx.cap.2
  unfold maxLen at hcm
  simp only [List.length_cons] at hca
  have HTL := Lib.hid (tx_tail ht)
  obtain ⟨v0, v1, v2, v3, f, m, hL, hNm⟩ := h
  obtain ⟨gs, hg1, hg2⟩ := hL.rows.grps
  obtain ⟨pu, ku, rfl, -⟩ := own_rd hg1
  clear gs hg1 hg2
  have HL := Lib.hid hL
  have HNm := Lib.hid hNm
  have hlt := hL.lt
  have HN := Lib.hid hn
  have q0 : ¬ (n : Int) < 2 := by omega
  have q00 : 2 ≤ n := by omega
  have hnc : n ≤ c := by omega
  unfold TkPost
  clear hL hNm hcell ht hn hca
  obtain ⟨qp, hqp⟩ : ∃ qp, (p1 :: ps).all isPat = qp := ⟨_, rfl⟩
  have HP := Lib.hid (fun (w' : World) (hb : Below w.heap.size w w') => pats_calls (p1 :: ps) (n - 1) (by rw [HN.out]; simp) (some ⟨b, o + 1, none⟩) (c - 1) w' (HTL.out.tx.below hb) qp hqp)
  cases qp with
  | false =>
    have HU := Lib.hid (show groupM cf (nm :: p1 :: ps) = (3, cf) by rw [groupM, if_pos hqp])
    generalize groupM cf (nm :: p1 :: ps) = r at *
    clear hqp
    go_enter Tryz.func85, Tryz.ntmps85
    go_wp2_with fail
    refine (HP.out _ (Below.refl _ _)).mono ?_
    rintro e w1 ⟨rfl, hb1⟩
    have B1 := Lib.hid hb1
    clear hb1
    go_wp2_with fail
    go_ret
    rw [HU.out]
    exact ⟨rfl, B1.out.mono hlt.2.2.1, kp_below B1.out, fun h => absurd (show (3 : Int) = 0 from h) (by decide)⟩
  | true =>
    have HU := Lib.hid (show groupM cf (nm :: p1 :: ps) = if callM (takenG cf nm) cf.grps.length nm = 0 then (0, { cf with grps := cf.grps ++ [(nm, p1 :: ps)] }) else (callM (takenG cf nm) cf.grps.length nm, cf) by rw [groupM, if_neg (by rw [hqp]; decide)])
    obtain ⟨k, hk⟩ : ∃ k, k = cf.grps.length := ⟨_, rfl⟩
    have HC := Lib.hid (fun (w' : World) (hl : Ldr B w' lb mb v0 (.slice pu k ku) v2 v3 ⟨cf, us⟩ f m) => call_calls B lb mb v0 (.slice pu k ku) v2 v3 ⟨cf, us⟩ f m sGroup nm (by decide) h1 _ (HNm.out nm).2.1 k w' hl)
    rw [← hk] at HL HU hcf
    have HK := Lib.hid hk
    have HPOS := Lib.hid (call_pos (takenG cf nm) k nm)
    generalize callM (takenG cf nm) k nm = cd at *
    generalize groupM cf (nm :: p1 :: ps) = r at *
    unfold sGroup at HC
    clear hqp hk
    have htn := HN.out
    have hps : (p1 :: ps).length = n - 1 := by rw [htn]; simp
    have HPS := Lib.hid hps
    clear htn hps
    go_enter Tryz.func85, Tryz.ntmps85
    go_wp2_with fail
    refine (HP.out _ (Below.refl _ _)).mono ?_
    rintro e w1 ⟨rfl, hb1⟩
    have d0 := (hb1.cell (p := ⟨b, o, none⟩) hbw).trans c0
    have hbw1 := Nat.lt_of_lt_of_le hbw hb1.size
    have B1 := Lib.hid hb1
    clear hb1 c0 hbw
    go_wp2_with fail
    go_region
    have N5 := Lib.hid (show (w1.alloc (.cells #[.string ⟨nm.toArray⟩, .slice (some ⟨b, o + 1, none⟩) (n - 1) (c - 1)] 65)).drew.heap[w1.heap.size]? = _ from at_new w1 (.cells #[.string ⟨nm.toArray⟩, .slice (some ⟨b, o + 1, none⟩) (n - 1) (c - 1)] 65))
    have A5 : Hid (Below w1.heap.size w1 (w1.alloc (.cells #[.string ⟨nm.toArray⟩, .slice (some ⟨b, o + 1, none⟩) (n - 1) (c - 1)] 65)).drew) := Lib.hid ((Below.refl w1.heap.size w1).alloc (Nat.le_refl _) _).drew
    generalize (w1.alloc (.cells #[.string ⟨nm.toArray⟩, .slice (some ⟨b, o + 1, none⟩) (n - 1) (c - 1)] 65)).drew = W2 at *
    have hg5 : w.heap.size ≤ w1.heap.size := B1.out.size
    generalize w1.heap.size = g5 at *
    have A2 := Lib.hid (B1.out.trans (A5.out.mono hg5))
    have L2 := Lib.hid (HL.out.below A2.out)
    have u0 := (at_cell N5.out 0 : _ = some (Value.string ⟨nm.toArray⟩))
    have m2 := L2.out.c1
    have l5 := at_lt N5.out
    have lL2 := L2.out.lt
    clear d0 hbw1
    go_wp2_with fail
    go_still_tail 9, (by kernel_rfl)
    change wpList _ _ _ _ _ W2.drew
    go_wp2_with fail
    refine (HC.out _ (L2.out.below (Below.refl W2.heap.size W2).drew)).mono ?_
    rintro e w5 ⟨rfl, ho5, hcn⟩
    have O5 : Hid (Out (fun k => k = mb) W2 w5) := Lib.hid ⟨ho5.os, ho5.tape, ho5.output, ho5.size, ho5.block⟩
    have hB5 := Lib.hid ((A2.out.mono hlt.2.2.1).trans (O5.out.below lL2.2.2.1 fun k e => by have := L2.out.low; omega))
    have hK5 := Lib.hid ((kp_below A2.out).trans (kp_map L2.out.map O5.out))
    clear ho5
    by_cases hc0 : cd = 0
    · have HU2 := Lib.hid (show r = (0, { cf with grps := cf.grps ++ [(nm, p1 :: ps)] }) by rw [HU.out, if_pos hc0])
      subst hc0
      obtain ⟨f', n', hl5, hf'⟩ := hcn
      obtain rfl := hf' rfl
      have ng : g5 ≠ mb := by omega
      have N6 := O5.out.at_ N5.out ng
      have x0 := (at_cell N6 0 : _ = some (Value.string ⟨nm.toArray⟩))
      have x1 := (at_cell N6 1 : _ = some (Value.slice (some ⟨b, o + 1, none⟩) (n - 1) (c - 1)))
      have y2 := hl5.c1
      have l6 := at_lt N6
      have l7 := hl5.lt
      obtain ⟨gs, hown, hgs⟩ := hl5.rows.grps
      rw [← show k = cf.grps.length from HK.out] at hown
      have hownA : (w5.alloc (.cells #[.string ⟨nm.toArray⟩, .slice (some ⟨b, o + 1, none⟩) (n - 1) (c - 1)] 65)).drew.ownsRow B 65 2 (.slice pu k ku) k (gs) := World.ownsRow.alloc hown _
      have HNW := Lib.hid (new_news (w := (w5.alloc (.cells #[.string ⟨nm.toArray⟩, .slice (some ⟨b, o + 1, none⟩) (n - 1) (c - 1)] 65)).drew) (cs := [.string ⟨nm.toArray⟩, .slice (some ⟨b, o + 1, none⟩) (n - 1) (c - 1)]) (at_new w5 (.cells #[.string ⟨nm.toArray⟩, .slice (some ⟨b, o + 1, none⟩) (n - 1) (c - 1)] 65)))
      have HADD := Lib.hid fun (w2 : World) (g cap : Nat) (own2 : w2.ownsRow B 65 2 (.slice (some ⟨g, 0, none⟩) (k + 1) cap) (k + 1) (gs ++ [.string ⟨nm.toArray⟩, .slice (some ⟨b, o + 1, none⟩) (n - 1) (c - 1)])) (grow : (w5.alloc (.cells #[.string ⟨nm.toArray⟩, .slice (some ⟨b, o + 1, none⟩) (n - 1) (c - 1)] 65)).drew.grownBy w2 (Value.slice pu k ku).ownBlock) =>
        hl5.add_grps nm (p1 :: ps) (some ⟨b, o + 1, none⟩) (c - 1) gs (by rw [← show k = cf.grps.length from HK.out]; exact hown) hgs (HTL.out.keep hB5.out) (v' := .slice (some ⟨g, 0, none⟩) (k + 1) cap) (((Below.refl w5.heap.size w5).alloc (Nat.le_refl _) _).drew) (by rw [HPS.out, ← show k = cf.grps.length from HK.out]; exact own2) grow
      have HNN := Lib.hid (names_grp (x := (nm, p1 :: ps)) HNm.out)
      have hBw := l7.2.2.1
      clear hl5 N6 u0 m2 hf' hown
      go_wp2_with fail
      go_region_law (refine step_append_lies _ rfl (.tmp 39) (.tmp 41) 24 rfl B 65 i0 _ 2 40 Tryz.underlying24 hi hz0 hz1 hz2 rfl (by decide) _ _ _ rfl hownA ⟨w5.heap.size, 0, none⟩ 1 1 [.string ⟨nm.toArray⟩, .slice (some ⟨b, o + 1, none⟩) (n - 1) (c - 1)] rfl rfl HNW.out (by simp [Value.oneCell']) (by omega) (by unfold maxLen; omega) (by omega) (by simp; omega) _ rfl ?_; intro g cap w2 own2 grow2 at2 _; obtain ⟨⟨z0, z1, z2⟩, L6, B6⟩ := HADD.out w2 g cap own2 grow2)
      all_goals
        have L6 := Lib.hid L6
        have B6 := Lib.hid B6
        clear z0 z1 z2 x0 x1 y2 l6 l7 hownA
        go_wp2_with fail
        go_ret
        rw [HU2.out]
        exact ⟨rfl, hB5.out.trans B6.out.1, hK5.out.trans B6.out.2, fun _ => ⟨_, _, _, _, _, _, L6.out, HNN.out⟩⟩
    · have HCN := Lib.hid hc0
      have q5 : 0 < cd := by have := HPOS.out; omega
      clear hc0 hcn u0 m2
      have b1 : (cd == 0) = false := by simp; omega
      go_wp2_with fail
      go_ret
      rw [HU.out, if_neg HCN.out]
      exact ⟨rfl, hB5.out, hK5.out, fun h => absurd h HCN.out⟩
end Go.Proofs.YtajfdachpdkbcaaGreatDoor.Conf
end

section
namespace Go.Proofs.YtajfdachpdkbcaaGreatDoor.Conf
open Go.RowKit Go.Proofs.YtajfdachpdkbcaaGreatDoor.Own Go.Proofs.YtajfdachpdkbcaaGreatDoor.Rw Go.Proofs.YtajfdachpdkbcaaGreatDoor.Tree Go.Proofs.YtajfdachpdkbcaaGreatDoor.KM
open Go.Proofs.YtajfdachpdkbcaaGreatDoor.Word (isName isPat)

theorem info_acc : (Tryz.prog.info? 46).map (fun i => (i.zero, i.size, i.bytes)) = some (some (.agg #[.string ⟨#[]⟩, .string ⟨#[]⟩, .int .i64 0]), 3, 40) := by kernel_rfl
theorem tx_two {B : Nat} {w : World} {p : Option Addr} {c : Nat} {t u : Bs} {ts : List Bs} (h : TxB B w p c (t :: u :: ts)) : TxB B w p c [t, u] := by
  have h1 := h.tx.cap
  simp only [List.length_cons] at h1
  refine ⟨⟨by rw [strs_len]; simp; omega, h1.2, ?_⟩, h.low, h.nil⟩
  rcases h.tx.row.cells with h0 | ⟨b', o', e, hl, k⟩
  · cases h0
  · refine .inr ⟨b', o', e, hl, fun i x hx => k i x ?_⟩
    match i, hx with
    | 0, hx => exact hx
    | 1, hx => exact hx
set_option maxRecDepth 100000 in
set_option maxHeartbeats 4000000 in
theorem takeAccess_few (args : List Bs) (n : Nat) (hn : n = args.length) (h2 : n ≠ 3) (p : Option Addr) (c : Nat) (B lb mb : Nat) (us : Cn) (cf : Cf) (w : World) :
    Calls Tryz.prog 87 #[.pointer (some ⟨lb, 0, none⟩), .slice p n c] w (TkPost B lb mb us (accM cf args) w) := by
  have HU := Lib.hid (show accM cf args = (3, cf) by
    unfold accM
    split
    · simp at hn; omega
    · rfl)
  have q1 : ((n : Int) != 3) = true := by simp; omega
  unfold TkPost
  generalize accM cf args = r at *
  clear hn h2
  go_enter Tryz.func87, Tryz.ntmps87
  go_wp2_with fail
  go_ret
  rw [HU.out]
  exact ⟨rfl, Below.refl _ _, Kp.refl _, fun h => absurd (show (3 : Int) = 0 from h) (by decide)⟩
set_option maxRecDepth 100000 in
set_option maxHeartbeats 4000000 in
theorem takeAccess_three (x u l : Bs) (p : Option Addr) (c : Nat) (B lb mb : Nat) (us : Cn) (cf : Cf) (hcf : cf.accs.length ≤ 65536) (w : World) (h : LdS B lb mb us cf w) (ht : TxB B w p c [x, u, l]) :
    Calls Tryz.prog 87 #[.pointer (some ⟨lb, 0, none⟩), .slice p 3 c] w (TkPost B lb mb us (accM cf [x, u, l]) w) := by
  obtain ⟨i0, hi, hz0, hz1, hz2⟩ := info_parts info_acc
  obtain ⟨b, o, rfl, hbB, hbw, hcell⟩ := ht.cells (by simp)
  have c0 : w.cell? ⟨b, o, none⟩ = some (.string ⟨x.toArray⟩) := hcell 0 (by simp)
  have c1 : w.cell? ⟨b, o + 1, none⟩ = some (.string ⟨u.toArray⟩) := hcell 1 (by simp)
  have c2 : w.cell? ⟨b, o + 2, none⟩ = some (.string ⟨l.toArray⟩) := hcell 2 (by simp)
  have hca : 3 ≤ c := ht.tx.cap.1
  have HTL := Lib.hid (tx_two ht)
  obtain ⟨v0, v1, v2, v3, f, m, hL, hNm⟩ := h
  obtain ⟨pu, ku, rfl, -⟩ := own_rd hL.rows.accs
  have HL := Lib.hid hL
  have HNm := Lib.hid hNm
  have hlt := hL.lt
  unfold TkPost
  clear hL hNm hcell ht
  obtain ⟨qp, hqp⟩ : ∃ qp, [x, u].all isPat = qp := ⟨_, rfl⟩
  have HP := Lib.hid (fun (w' : World) (hb : Below w.heap.size w w') => pats_calls [x, u] 2 rfl (some ⟨b, o, none⟩) c w' (HTL.out.tx.below hb) qp hqp)
  cases qp with
  | false =>
    have HU := Lib.hid (show accM cf [x, u, l] = (3, cf) by rw [accM, if_pos hqp])
    generalize accM cf [x, u, l] = r at *
    clear hqp
    go_enter Tryz.func87, Tryz.ntmps87
    go_wp2_with fail
    refine (HP.out _ (Below.refl _ _)).mono ?_
    rintro e w1 ⟨rfl, hb1⟩
    have B1 := Lib.hid hb1
    clear hb1
    go_wp2_with fail
    go_ret
    rw [HU.out]
    exact ⟨rfl, B1.out.mono hlt.2.2.1, kp_below B1.out, fun h => absurd (show (3 : Int) = 0 from h) (by decide)⟩
  | true =>
    obtain ⟨k, hk⟩ : ∃ k, k = cf.accs.length := ⟨_, rfl⟩
    have HU := Lib.hid (show accM cf [x, u, l] = if lvl l < 0 then (3, cf) else if 4096 ≤ k then (15, cf) else (0, { cf with accs := cf.accs ++ [(x, u, lvl l)] }) by rw [accM, if_neg (by rw [hqp]; decide), hk])
    have HLV := Lib.hid (levels_idx l)
    rw [← hk] at HL hcf
    have HK := Lib.hid hk
    generalize accM cf [x, u, l] = r at *
    clear hqp hk
    go_enter Tryz.func87, Tryz.ntmps87
    go_wp2_with fail
    refine (HP.out _ (Below.refl _ _)).mono ?_
    rintro e w1 ⟨rfl, hb1⟩
    have d0 := (hb1.cell (p := ⟨b, o, none⟩) hbw).trans c0
    have d1 := (hb1.cell (p := ⟨b, o + 1, none⟩) hbw).trans c1
    have d2 := (hb1.cell (p := ⟨b, o + 2, none⟩) hbw).trans c2
    have hbw1 := Nat.lt_of_lt_of_le hbw hb1.size
    have B1 := Lib.hid hb1
    clear hb1 c0 c1 c2 hbw
    generalize lvl l = lv at *
    go_wp2_with fail
    go_region_held3 (fun w' => w'.cell? ⟨b, o + 2, none⟩ = some (.string ⟨l.toArray⟩))
      (first
        | exact d2
        | exact y5.out
        | (have y7 := y5.out; rw [H5.out] at y7; exact y7)
        | exact y6.out)
      (first
        | (go_at_call 26; refine (levels_calls _).mono ?_; rintro e w5 ⟨rfl, hw5⟩; have H5 := Lib.hid hw5; have B5 : Hid (Below w1.heap.size w1 w5) := Lib.hid (by rw [hw5]; exact ⟨rfl, rfl, rfl, by simp, fun k hk => Below.heap_alloc _ _ _ hk⟩); have y5 := Lib.hid ((B5.out.cell (p := ⟨b, o + 2, none⟩) hbw1).trans d2))
        | (go_at_call 118; refine (HLV.out _ _ (by first | exact at_new _ _ | (rw [H5.out]; exact at_new _ _))).mono ?_; rintro e w6 ⟨rfl, hw6⟩; have B6 : Hid (Below w1.heap.size w1 w6) := Lib.hid (by rw [← hw6]; first | exact B5.out | exact ⟨rfl, rfl, rfl, by simp, fun k hk => Below.heap_alloc _ _ _ hk⟩); have y6 := Lib.hid ((B6.out.cell (p := ⟨b, o + 2, none⟩) hbw1).trans d2)))
    all_goals
      have hB6 := Lib.hid (B1.out.trans (B6.out.mono B1.out.size))
      have d0 := (B6.out.cell (p := ⟨b, o, none⟩) hbw1).trans d0
      have d1 := (B6.out.cell (p := ⟨b, o + 1, none⟩) hbw1).trans d1
      have hbw6 := Nat.lt_of_lt_of_le hbw1 B6.out.size
      have L6 := Lib.hid (HL.out.below hB6.out)
      clear y5 y6 B6 hw6 d2 HLV HTL HP hbw1 B1
      by_cases hl0 : lv < 0
      · have HU2 := Lib.hid (show r = (3, cf) by rw [HU.out, if_pos hl0])
        go_wp2_with fail
        go_ret
        rw [HU2.out]
        exact ⟨rfl, hB6.out.mono hlt.2.2.1, kp_below hB6.out, fun h => absurd (show (3 : Int) = 0 from h) (by decide)⟩
      · have m3 := L6.out.c3
        have l6 := L6.out.lt
        by_cases hk4 : 4096 ≤ k
        · have HU2 := Lib.hid (show r = (15, cf) by rw [HU.out, if_neg hl0, if_pos hk4])
          have q4 : (4096 : Int) ≤ (k : Int) := by omega
          clear hk4
          go_wp2_with fail
          go_ret
          rw [HU2.out]
          exact ⟨rfl, hB6.out.mono hlt.2.2.1, kp_below hB6.out, fun h => absurd (show (15 : Int) = 0 from h) (by decide)⟩
        · have HU2 := Lib.hid (show r = (0, { cf with accs := cf.accs ++ [(x, u, lv)] }) by rw [HU.out, if_neg hl0, if_neg hk4])
          have q4 : ¬ (4096 : Int) ≤ (k : Int) := by omega
          have hown := L6.out.rows.accs
          rw [← show k = cf.accs.length from HK.out] at hown
          have hownA : (w6.alloc (.cells #[.string ⟨x.toArray⟩, .string ⟨u.toArray⟩, .int .i64 lv] 46)).drew.ownsRow B 46 3 (.slice pu k ku) k (cf.accs.flatMap acv) := World.ownsRow.alloc hown _
          have HNW := Lib.hid (new_news (w := (w6.alloc (.cells #[.string ⟨x.toArray⟩, .string ⟨u.toArray⟩, .int .i64 lv] 46)).drew) (cs := [.string ⟨x.toArray⟩, .string ⟨u.toArray⟩, .int .i64 lv]) (at_new w6 (.cells #[.string ⟨x.toArray⟩, .string ⟨u.toArray⟩, .int .i64 lv] 46)))
          have HADD := Lib.hid fun (w2 : World) (g cap : Nat) (own2 : w2.ownsRow B 46 3 (.slice (some ⟨g, 0, none⟩) (k + 1) cap) (k + 1) (cf.accs.flatMap acv ++ [.string ⟨x.toArray⟩, .string ⟨u.toArray⟩, .int .i64 lv])) (grow : (w6.alloc (.cells #[.string ⟨x.toArray⟩, .string ⟨u.toArray⟩, .int .i64 lv] 46)).drew.grownBy w2 (Value.slice pu k ku).ownBlock) =>
            L6.out.add_accs (x, u, lv) (v' := .slice (some ⟨g, 0, none⟩) (k + 1) cap) (((Below.refl w6.heap.size w6).alloc (Nat.le_refl _) _).drew) (by rw [HK.out] at own2; rw [HK.out]; exact own2) grow
          have hBw := l6.2.2.1
          clear hown hk4
          go_wp2_with fail
          go_region_law (refine step_append_lies _ rfl (.tmp 36) (.tmp 45) 26 rfl B 46 i0 _ 3 40 Tryz.underlying26 hi hz0 hz1 hz2 rfl (by decide) _ _ _ rfl hownA ⟨w6.heap.size, 0, none⟩ 1 1 [.string ⟨x.toArray⟩, .string ⟨u.toArray⟩, .int .i64 lv] rfl rfl HNW.out (by simp [Value.oneCell']) (by omega) (by unfold maxLen; omega) (by omega) (by simp; omega) _ rfl ?_; intro g cap w2 own2 grow2 at2 _; obtain ⟨⟨z0, z1, z2⟩, L7, B7⟩ := HADD.out w2 g cap own2 grow2)
          all_goals
            have L7 := Lib.hid L7
            have B7 := Lib.hid B7
            clear z0 z1 z2 d0 d1 m3 hownA
            go_wp2_with fail
            go_ret
            rw [HU2.out]
            exact ⟨rfl, (hB6.out.mono hlt.2.2.1).trans B7.out.1, (kp_below hB6.out).trans B7.out.2, fun _ => ⟨_, _, _, _, f, m, L7.out, HNm.out⟩⟩
end Go.Proofs.YtajfdachpdkbcaaGreatDoor.Conf
end

section
namespace Go.Proofs.YtajfdachpdkbcaaGreatDoor.Conf
open Go.RowKit Go.Proofs.YtajfdachpdkbcaaGreatDoor.Own Go.Proofs.YtajfdachpdkbcaaGreatDoor.Rw Go.Proofs.YtajfdachpdkbcaaGreatDoor.Tree Go.Proofs.YtajfdachpdkbcaaGreatDoor.KM
open Go.Proofs.YtajfdachpdkbcaaGreatDoor.Digit (rdV rdC IsTick rd_some rd_none)
open Go.Proofs.YtajfdachpdkbcaaGreatDoor.Brk (rC)

theorem brk_set {v0 v1 v2 v3 : Value} (bs : List Bs) (r : List Value) {i : Nat} (hi : i < bs.length) (t : Bs) : (v0 :: v1 :: v2 :: v3 :: (strs bs ++ r)).set (4 + i) (str t) = v0 :: v1 :: v2 :: v3 :: (strs (bs.set i t) ++ r) := by
  rw [show 4 + i = i + 1 + 1 + 1 + 1 by omega, List.set_cons_succ, List.set_cons_succ, List.set_cons_succ, List.set_cons_succ, List.set_append_left _ _ (by rw [strs_len]; omega)]
  unfold strs
  rw [List.map_set]
theorem Ldr.setBrk {B : Nat} {w : World} {lb mb : Nat} {v0 v1 v2 v3 : Value} {s : Sa} {f : Nm → Option Value} {n : Nat} (h : Ldr B w lb mb v0 v1 v2 v3 s f n) {i : Nat} (hi : i < s.cf.brks.length) (t : Bs) :
    Ldr B (w.setCell ⟨lb, 4 + i, none⟩ (.string ⟨t.toArray⟩)) lb mb v0 v1 v2 v3 ⟨{ s.cf with brks := s.cf.brks.set i t }, s.us⟩ f n ∧ Below B w (w.setCell ⟨lb, 4 + i, none⟩ (.string ⟨t.toArray⟩)) ∧ Kp w (w.setCell ⟨lb, 4 + i, none⟩ (.string ⟨t.toArray⟩)) := by
  have hl := h.lt
  have hlow := h.low
  have os : Out (fun k => k = lb) w (w.setCell ⟨lb, 4 + i, none⟩ (.string ⟨t.toArray⟩)) := Own.Out.setCell (S := fun k => k = lb) (Out.refl _ _) (p := ⟨lb, 4 + i, none⟩) (fun _ => rfl) _
  have hbel := os.below hl.2.2.1 fun k e => by omega
  obtain ⟨gs, hg1, hg2⟩ := h.rows.grps
  refine ⟨⟨hlow, ?_, ⟨own_out h.rows.cons os fun k e e2 => own_type h.rows.cons h.blk (by decide) (e2 ▸ e), ⟨gs, own_out hg1 os fun k e e2 => own_type hg1 h.blk (by decide) (e2 ▸ e), hg2.keep hbel⟩, own_out h.rows.usrs os fun k e e2 => own_type h.rows.usrs h.blk (by decide) (e2 ▸ e), own_out h.rows.accs os fun k e e2 => own_type h.rows.accs h.blk (by decide) (e2 ▸ e)⟩,
    h.map.kept (os.block mb hl.2.1 (fun e => hl.2.2.2 e.symm)), by show (s.cf.brks.set i t).length = 10; rw [List.length_set]; exact h.ten, h.vals⟩, hbel, kp_out os fun k C fr e e2 => kp_cells h.blk (by decide) e e2⟩
  rw [at_set h.blk, List.setIfInBounds_toArray]
  have := brk_set (v0 := v0) (v1 := v1) (v2 := v2) (v3 := v3) s.cf.brks (cnv s.us ++ [.map (some mb)]) hi t
  rw [str] at this
  rw [this]
theorem brk_form (cf : Cf) (kk tt : Bs) : (numC kk 1 9 ≠ 0 → brkM cf [kk, tt] = (numC kk 1 9, cf)) ∧ (numC kk 1 9 = 0 → (1 ≤ rdV kk ∧ rdV kk ≤ 9) ∧ brkM cf [kk, tt] = if rC tt ≠ 0 then (rC tt, cf) else if tt = [] then (3, cf) else if cf.brks[(rdV kk).toNat]?.getD [] ≠ [] then (8, cf) else (0, { cf with brks := cf.brks.set (rdV kk).toNat tt })) := by
  unfold numC
  constructor
  · intro h
    split at h
    · rename_i h1; rw [brkM, if_pos h1, if_pos h1]
    · rename_i h1
      split at h
      · exact absurd rfl h
      · rename_i h2; rw [brkM, if_neg h1, if_neg h1, if_pos h2, if_neg h2]
  · intro h
    split at h
    · cases h
    · rename_i h1
      split at h
      · rename_i h2; exact ⟨h2, by rw [brkM, if_neg h1, if_neg (by simpa using h2)]⟩
      · cases h
set_option maxRecDepth 100000 in
set_option maxHeartbeats 4000000 in
theorem takeBreak_few (args : List Bs) (n : Nat) (hn : n = args.length) (h2 : n ≠ 2) (p : Option Addr) (c : Nat) (B lb mb : Nat) (us : Cn) (cf : Cf) (w : World) :
    Calls Tryz.prog 88 #[.pointer (some ⟨lb, 0, none⟩), .slice p n c] w (TkPost B lb mb us (brkM cf args) w) := by
  have HU := Lib.hid (show brkM cf args = (3, cf) by
    unfold brkM
    split
    · simp at hn; exact absurd hn h2
    · rfl)
  have q1 : ((n : Int) != 2) = true := by simp; omega
  unfold TkPost
  generalize brkM cf args = r at *
  clear hn h2
  go_enter Tryz.func88, Tryz.ntmps88
  go_wp2_with fail
  go_ret
  rw [HU.out]
  exact ⟨rfl, Below.refl _ _, Kp.refl _, fun h => absurd (show (3 : Int) = 0 from h) (by decide)⟩
set_option maxRecDepth 100000 in
set_option maxHeartbeats 4000000 in
theorem takeBreak_two (kk tt : Bs) (h1 : kk.length ≤ 65536) (h2 : tt.length ≤ 65536) (p : Option Addr) (c : Nat) (B lb mb : Nat) (us : Cn) (cf : Cf) (w : World) (h : LdS B lb mb us cf w) (ht : TxB B w p c [kk, tt]) :
    Calls Tryz.prog 88 #[.pointer (some ⟨lb, 0, none⟩), .slice p 2 c] w (TkPost B lb mb us (brkM cf [kk, tt]) w) := by
  obtain ⟨b, o, rfl, hbB, hbw, hcell⟩ := ht.cells (by simp)
  have c0 : w.cell? ⟨b, o, none⟩ = some (.string ⟨kk.toArray⟩) := hcell 0 (by simp)
  have c1 : w.cell? ⟨b, o + 1, none⟩ = some (.string ⟨tt.toArray⟩) := hcell 1 (by simp)
  have hca : 2 ≤ c := ht.tx.cap.1
  obtain ⟨v0, v1, v2, v3, f, m, hL, hNm⟩ := h
  have HL := Lib.hid hL
  have HNm := Lib.hid hNm
  have hlt := hL.lt
  unfold TkPost
  clear hL hNm hcell ht
  have A1 := Lib.hid ((Below.refl w.heap.size w).alloc (Nat.le_refl _) (.cells #[.int .i64 0] 3))
  have N1 := Lib.hid (at_new w (.cells #[.int .i64 0] 3))
  have d0 := (A1.out.cell (p := ⟨b, o, none⟩) hbw).trans c0
  have d1 := (A1.out.cell (p := ⟨b, o + 1, none⟩) hbw).trans c1
  have HS := Lib.hid (setNumber_calls kk h1 1 9 w.heap.size 0 (.int .i64 0) (w.alloc (.cells #[.int .i64 0] 3)) (at_lt N1.out) (at_cell N1.out 0) (at_frozen N1.out 0))
  obtain ⟨F1, F2⟩ := brk_form cf kk tt
  have F1 := Lib.hid F1
  have F2 := Lib.hid F2
  generalize brkM cf [kk, tt] = r at *
  go_enter Tryz.func88, Tryz.ntmps88
  go_wp2_with fail
  refine HS.out.mono ?_
  intro e w2 hp
  obtain ⟨rfl, w1, hb1, hw2⟩ := hp
  have hA := A1.out.size
  have B1 := Lib.hid (A1.out.trans (hb1.mono hA))
  have hgl : w.heap.size < (w.alloc (.cells #[.int .i64 0] 3)).heap.size := at_lt N1.out
  have N2 := Lib.hid ((hb1.block _ hgl).trans N1.out)
  by_cases hc : numC kk 1 9 = 0
  · obtain ⟨⟨hr1, hr2⟩, hF⟩ := F2.out hc
    rw [hc] at hw2 ⊢
    have hw2' : w2 = w1.setCell ⟨w.heap.size, 0, none⟩ (.int .i64 (rdV kk)) := hw2
    have N3 := Lib.hid (show w2.heap[w.heap.size]? = some (.cells #[.int .i64 (rdV kk)] 3 (0, 0)) by rw [hw2']; have := at_set N2.out 0 (.int .i64 (rdV kk)); simpa using this)
    have B2 := Lib.hid (show Below w.heap.size w w2 by rw [hw2']; exact B1.out.setCell (p := ⟨w.heap.size, 0, none⟩) (Nat.le_refl _) _)
    clear hw2 hw2' hc B1 hb1 N1 N2 A1 HS F1 F2 c0 c1 d0 hgl hA
    obtain ⟨i, hi⟩ : ∃ i : Nat, rdV kk = (i : Int) := ⟨(rdV kk).toNat, by omega⟩
    rw [hi] at N3 hF hr1 hr2
    have hF := Lib.hid hF
    rw [Int.toNat_natCast] at hF
    have HR := Lib.hid (Brk.read_calls tt (by omega))
    unfold Brk.RPost at HR
    go_wp2_with fail
    refine (HR.out _).mono ?_
    rintro e w3 ⟨v, rfl, -, hb3⟩
    have B3 := Lib.hid (B2.out.trans (hb3.mono B2.out.size))
    have N4 := (hb3.block _ (at_lt N3.out)).trans N3.out
    have x0 := (at_cell N4 0 : _ = some (Value.int .i64 (i : Int)))
    have l4 := at_lt N4
    have L3 := Lib.hid (HL.out.below B3.out)
    clear hb3 N4
    by_cases hrc : rC tt = 0
    · rw [hrc]
      by_cases htt : tt = []
      · subst htt
        have HF := Lib.hid (show r = (3, cf) by rw [hF.out, if_neg (by simp [hrc]), if_pos rfl])
        clear hrc
        go_wp2_with fail
        go_ret
        rw [HF.out]
        exact ⟨rfl, B3.out.mono hlt.2.2.1, kp_below B3.out, fun h => absurd (show (3 : Int) = 0 from h) (by decide)⟩
      · have q6 : (tt == []) = false := by simpa using htt
        have hib : i < cf.brks.length := by have := HL.out.ten; have h10 : cf.brks.length = 10 := this; omega
        have HG := Lib.hid (show cf.brks[i]?.getD [] = cf.brks[i] by rw [List.getElem?_eq_getElem hib]; rfl)
        have y0 := L3.out.brk hib
        have lL := L3.out.lt
        have yf := at_frozen L3.out.blk (4 + i)
        have HSB := Lib.hid fun (w' : World) (hl : Ldr B w' lb mb v0 v1 v2 v3 ⟨cf, us⟩ f m) => hl.setBrk hib tt
        have q7 : (i : Int) < 10 := by omega
        have q8 : (0 : Int) ≤ (i : Int) := by omega
        by_cases hbe : cf.brks[i] = []
        · have HF := Lib.hid (show r = (0, { cf with brks := cf.brks.set i tt }) by rw [hF.out, if_neg (by simp [hrc]), if_neg htt, if_neg (by rw [HG.out, hbe]; simp)])
          rw [hbe] at y0
          clear hrc hbe htt hF
          go_wp2_with fail
          go_quiet (fail)
          go_wp2_with fail
          go_region
          go_wp2_with fail
          go_ret
          rw [HF.out]
          obtain ⟨L5, B5, K5⟩ := HSB.out (w3.drewN _) (L3.out.below (below_drew (Below.refl _ _)))
          exact ⟨rfl, ((below_drew (B3.out.mono hlt.2.2.1)).trans B5), (kp_below (below_drew B3.out)).trans K5, fun _ => ⟨_, _, _, _, f, m, L5, HNm.out⟩⟩
        · have HF := Lib.hid (show r = (8, cf) by rw [hF.out, if_neg (by simp [hrc]), if_neg htt, if_pos (by rw [HG.out]; exact hbe)])
          have q9 : (cf.brks[i] == []) = false := by simpa using hbe
          generalize cf.brks[i] = bi at *
          clear hrc hbe htt hF HG
          go_wp2_with fail
          go_quiet (fail)
          go_wp2_with fail
          go_ret
          rw [HF.out]
          exact ⟨rfl, below_drew (B3.out.mono hlt.2.2.1), kp_below (below_drew B3.out), fun h => absurd (show (8 : Int) = 0 from h) (by decide)⟩
    · have HF := Lib.hid (show r = (rC tt, cf) by rw [hF.out, if_pos (by simpa using hrc)])
      have HN := Lib.hid hrc
      have b1 : (rC tt != 0) = true := by simpa using hrc
      clear hrc hF
      generalize rC tt = cc at *
      go_wp2_with fail
      go_ret
      rw [HF.out]
      exact ⟨rfl, B3.out.mono hlt.2.2.1, kp_below B3.out, fun h => absurd h HN.out⟩
  · have HF := Lib.hid (F1.out hc)
    have HN := Lib.hid hc
    have b1 : (numC kk 1 9 != 0) = true := by simpa using hc
    have hw2' : w2 = w1 := by rw [hw2]; unfold stw; rw [if_neg hc]
    subst hw2'
    clear hw2 hc F1 F2 hb1 c0 c1 d0 d1 N1 N2
    generalize numC kk 1 9 = cc at *
    go_wp2_with fail
    go_ret
    rw [HF.out]
    exact ⟨rfl, B1.out.mono hlt.2.2.1, kp_below B1.out, fun h => absurd h HN.out⟩
end Go.Proofs.YtajfdachpdkbcaaGreatDoor.Conf
end

section
namespace Go.Proofs.YtajfdachpdkbcaaGreatDoor.Conf
open Go.RowKit Go.Proofs.YtajfdachpdkbcaaGreatDoor.Own Go.Proofs.YtajfdachpdkbcaaGreatDoor.Rw Go.Proofs.YtajfdachpdkbcaaGreatDoor.Tree Go.Proofs.YtajfdachpdkbcaaGreatDoor.KM

theorem TkPost.up {B lb mb : Nat} {us : Cn} {r : Int × Cf} {w w1 w' : World} {e : Ending} (hB : B ≤ w.heap.size) (hb : Below w.heap.size w w1) (h : TkPost B lb mb us r w1 e w') : TkPost B lb mb us r w e w' :=
  ⟨h.1, (hb.mono hB).trans h.2.1, (kp_below hb).trans h.2.2.1, h.2.2.2⟩
/-- not too many -/
structure Lim (c : Cf) : Prop where
  g : c.grps.length ≤ 65536
  u : c.usrs.length ≤ 65536
  a : c.accs.length ≤ 65536
theorem LdS.lo {B lb mb : Nat} {us : Cn} {c : Cf} {w : World} (h : LdS B lb mb us c w) : B ≤ w.heap.size := by
  obtain ⟨v0, v1, v2, v3, f, n, h1, h2⟩ := h
  exact h1.lt.2.2.1
theorem takeGroup_calls (args : List Bs) (hs : ∀ t ∈ args, t.length ≤ 65536) (p : Option Addr) (c : Nat) (B lb mb : Nat) (us : Cn) (cf : Cf) (hc : Lim cf) (w : World) (h : LdS B lb mb us cf w) (ht : TxB B w p c args) :
    Calls Tryz.prog 85 #[.pointer (some ⟨lb, 0, none⟩), .slice p args.length c] w (TkPost B lb mb us (groupM cf args) w) := by
  match args, hs, ht with
  | [], _, _ => exact takeGroup_few [] _ rfl (by simp) p c B lb mb us cf w
  | [a], _, _ => exact takeGroup_few [a] _ rfl (by simp) p c B lb mb us cf w
  | nm :: p1 :: ps, hs, ht => exact takeGroup_more nm p1 ps (hs nm (by simp)) _ rfl p c B lb mb us cf hc.g w h ht
theorem takeUser_calls (args : List Bs) (hs : ∀ t ∈ args, t.length ≤ 65536) (p : Option Addr) (c : Nat) (B lb mb : Nat) (us : Cn) (cf : Cf) (hc : Lim cf) (w : World) (h : LdS B lb mb us cf w) (ht : TxB B w p c args) :
    Calls Tryz.prog 86 #[.pointer (some ⟨lb, 0, none⟩), .slice p args.length c] w (TkPost B lb mb us (userM cf args) w) := by
  match args, hs, ht with
  | [nm, pw], hs, ht => exact takeUser_two nm pw (hs nm (by simp)) (hs pw (by simp)) p c B lb mb us cf hc.u w h ht
  | [], _, _ => exact takeUser_few [] _ rfl (by simp) p c B lb mb us cf w
  | [a], _, _ => exact takeUser_few [a] _ rfl (by simp) p c B lb mb us cf w
  | a1 :: a2 :: a3 :: r, _, _ => exact takeUser_few (a1 :: a2 :: a3 :: r) _ rfl (by simp) p c B lb mb us cf w
theorem takeAccess_calls (args : List Bs) (p : Option Addr) (c : Nat) (B lb mb : Nat) (us : Cn) (cf : Cf) (hc : Lim cf) (w : World) (h : LdS B lb mb us cf w) (ht : TxB B w p c args) :
    Calls Tryz.prog 87 #[.pointer (some ⟨lb, 0, none⟩), .slice p args.length c] w (TkPost B lb mb us (accM cf args) w) := by
  match args, ht with
  | [x, u, l], ht => exact takeAccess_three x u l p c B lb mb us cf hc.a w h ht
  | [], _ => exact takeAccess_few [] _ rfl (by simp) p c B lb mb us cf w
  | [a], _ => exact takeAccess_few [a] _ rfl (by simp) p c B lb mb us cf w
  | [a1, a2], _ => exact takeAccess_few [a1, a2] _ rfl (by simp) p c B lb mb us cf w
  | a1 :: a2 :: a3 :: a4 :: r, _ => exact takeAccess_few (a1 :: a2 :: a3 :: a4 :: r) _ rfl (by simp) p c B lb mb us cf w
theorem takeBreak_calls (args : List Bs) (hs : ∀ t ∈ args, t.length ≤ 65536) (p : Option Addr) (c : Nat) (B lb mb : Nat) (us : Cn) (cf : Cf) (w : World) (h : LdS B lb mb us cf w) (ht : TxB B w p c args) :
    Calls Tryz.prog 88 #[.pointer (some ⟨lb, 0, none⟩), .slice p args.length c] w (TkPost B lb mb us (brkM cf args) w) := by
  match args, hs, ht with
  | [kk, tt], hs, ht => exact takeBreak_two kk tt (hs kk (by simp)) (hs tt (by simp)) p c B lb mb us cf w h ht
  | [], _, _ => exact takeBreak_few [] _ rfl (by simp) p c B lb mb us cf w
  | [a], _, _ => exact takeBreak_few [a] _ rfl (by simp) p c B lb mb us cf w
  | a1 :: a2 :: a3 :: r, _, _ => exact takeBreak_few (a1 :: a2 :: a3 :: r) _ rfl (by simp) p c B lb mb us cf w
set_option maxRecDepth 100000 in
set_option maxHeartbeats 4000000 in
theorem tp_group (args : List Bs) (n : Nat) (hn : n = args.length) (hs : ∀ t ∈ args, t.length ≤ 65536) (pa pl : Option Addr) (ca nl cl : Nat) (line : Int) (B lb mb : Nat) (us : Cn) (cf : Cf) (hc : Lim cf) (w : World) (h : LdS B lb mb us cf w) (ht : TxB B w pa ca args) :
    Calls Tryz.prog 51 #[.pointer (some ⟨lb, 0, none⟩), ndV sGroup pa n ca false pl nl cl line] w (TkPost B lb mb us (groupM cf args) w) := by
  have BA := Lib.hid ((Below.refl w.heap.size w).alloc (Nat.le_refl _) (.cells (ndA sGroup pa n ca false pl nl cl line) 57))
  have hB := h.lo
  have HB := Lib.hid hB
  have LA := Lib.hid (h.below BA.out)
  have TA := Lib.hid (ht.keep (BA.out.mono hB))
  have HC := Lib.hid (fun (w' : World) (h : LdS B lb mb us cf w') (ht : TxB B w' pa ca args) => takeGroup_calls args hs pa ca B lb mb us cf hc w' h ht)
  rw [← hn] at HC
  unfold ndA sGroup at BA LA TA
  unfold ndV sGroup
  have HX := Lib.hid (And.intro hs hc)
  clear HX
  clear h ht hn hs hB hc
  go_enter Tryz.func51, Tryz.ntmps51
  go_wp2_with fail
  refine (HC.out _ LA.out TA.out).mono ?_
  intro e w1 hp
  have HP := Lib.hid (TkPost.up HB.out BA.out hp)
  obtain ⟨rfl, -⟩ := hp
  generalize groupM cf args = r at *
  go_wp2_with fail
  go_ret
  exact HP.out
set_option maxRecDepth 100000 in
set_option maxHeartbeats 4000000 in
theorem tp_user (args : List Bs) (n : Nat) (hn : n = args.length) (hs : ∀ t ∈ args, t.length ≤ 65536) (pa pl : Option Addr) (ca nl cl : Nat) (line : Int) (B lb mb : Nat) (us : Cn) (cf : Cf) (hc : Lim cf) (w : World) (h : LdS B lb mb us cf w) (ht : TxB B w pa ca args) :
    Calls Tryz.prog 51 #[.pointer (some ⟨lb, 0, none⟩), ndV sUser pa n ca false pl nl cl line] w (TkPost B lb mb us (userM cf args) w) := by
  have BA := Lib.hid ((Below.refl w.heap.size w).alloc (Nat.le_refl _) (.cells (ndA sUser pa n ca false pl nl cl line) 57))
  have hB := h.lo
  have HB := Lib.hid hB
  have LA := Lib.hid (h.below BA.out)
  have TA := Lib.hid (ht.keep (BA.out.mono hB))
  have HC := Lib.hid (fun (w' : World) (h : LdS B lb mb us cf w') (ht : TxB B w' pa ca args) => takeUser_calls args hs pa ca B lb mb us cf hc w' h ht)
  rw [← hn] at HC
  unfold ndA sUser at BA LA TA
  unfold ndV sUser
  have HX := Lib.hid (And.intro hs hc)
  clear HX
  clear h ht hn hs hB hc
  go_enter Tryz.func51, Tryz.ntmps51
  go_wp2_with fail
  refine (HC.out _ LA.out TA.out).mono ?_
  intro e w1 hp
  have HP := Lib.hid (TkPost.up HB.out BA.out hp)
  obtain ⟨rfl, -⟩ := hp
  generalize userM cf args = r at *
  go_wp2_with fail
  go_ret
  exact HP.out
set_option maxRecDepth 100000 in
set_option maxHeartbeats 4000000 in
theorem tp_access (args : List Bs) (n : Nat) (hn : n = args.length) (hs : ∀ t ∈ args, t.length ≤ 65536) (pa pl : Option Addr) (ca nl cl : Nat) (line : Int) (B lb mb : Nat) (us : Cn) (cf : Cf) (hc : Lim cf) (w : World) (h : LdS B lb mb us cf w) (ht : TxB B w pa ca args) :
    Calls Tryz.prog 51 #[.pointer (some ⟨lb, 0, none⟩), ndV sAccess pa n ca false pl nl cl line] w (TkPost B lb mb us (accM cf args) w) := by
  have BA := Lib.hid ((Below.refl w.heap.size w).alloc (Nat.le_refl _) (.cells (ndA sAccess pa n ca false pl nl cl line) 57))
  have hB := h.lo
  have HB := Lib.hid hB
  have LA := Lib.hid (h.below BA.out)
  have TA := Lib.hid (ht.keep (BA.out.mono hB))
  have HC := Lib.hid (fun (w' : World) (h : LdS B lb mb us cf w') (ht : TxB B w' pa ca args) => takeAccess_calls args pa ca B lb mb us cf hc w' h ht)
  rw [← hn] at HC
  unfold ndA sAccess at BA LA TA
  unfold ndV sAccess
  have HX := Lib.hid (And.intro hs hc)
  clear HX
  clear h ht hn hs hB hc
  go_enter Tryz.func51, Tryz.ntmps51
  go_wp2_with fail
  refine (HC.out _ LA.out TA.out).mono ?_
  intro e w1 hp
  have HP := Lib.hid (TkPost.up HB.out BA.out hp)
  obtain ⟨rfl, -⟩ := hp
  generalize accM cf args = r at *
  go_wp2_with fail
  go_ret
  exact HP.out
set_option maxRecDepth 100000 in
set_option maxHeartbeats 4000000 in
theorem tp_break (args : List Bs) (n : Nat) (hn : n = args.length) (hs : ∀ t ∈ args, t.length ≤ 65536) (pa pl : Option Addr) (ca nl cl : Nat) (line : Int) (B lb mb : Nat) (us : Cn) (cf : Cf) (hc : Lim cf) (w : World) (h : LdS B lb mb us cf w) (ht : TxB B w pa ca args) :
    Calls Tryz.prog 51 #[.pointer (some ⟨lb, 0, none⟩), ndV sBreak pa n ca false pl nl cl line] w (TkPost B lb mb us (brkM cf args) w) := by
  have BA := Lib.hid ((Below.refl w.heap.size w).alloc (Nat.le_refl _) (.cells (ndA sBreak pa n ca false pl nl cl line) 57))
  have hB := h.lo
  have HB := Lib.hid hB
  have LA := Lib.hid (h.below BA.out)
  have TA := Lib.hid (ht.keep (BA.out.mono hB))
  have HC := Lib.hid (fun (w' : World) (h : LdS B lb mb us cf w') (ht : TxB B w' pa ca args) => takeBreak_calls args hs pa ca B lb mb us cf w' h ht)
  rw [← hn] at HC
  unfold ndA sBreak at BA LA TA
  unfold ndV sBreak
  have HX := Lib.hid (And.intro hs hc)
  clear HX
  clear h ht hn hs hB hc
  go_enter Tryz.func51, Tryz.ntmps51
  go_wp2_with fail
  refine (HC.out _ LA.out TA.out).mono ?_
  intro e w1 hp
  have HP := Lib.hid (TkPost.up HB.out BA.out hp)
  obtain ⟨rfl, -⟩ := hp
  generalize brkM cf args = r at *
  go_wp2_with fail
  go_ret
  exact HP.out
set_option maxRecDepth 100000 in
set_option maxHeartbeats 4000000 in
theorem tp_else (key : Bs) (pa pl : Option Addr) (na ca nl cl : Nat) (line : Int) (B lb mb : Nat) (us : Cn) (cf : Cf) (w : World) (hB : B ≤ w.heap.size) (n0 : key ≠ sGroup) (n1 : key ≠ sUser) (n2 : key ≠ sAccess) (n3 : key ≠ sBreak) :
    Calls Tryz.prog 51 #[.pointer (some ⟨lb, 0, none⟩), ndV key pa na ca false pl nl cl line] w (TkPost B lb mb us ((3 : Int), cf) w) := by
  have BA := Lib.hid ((Below.refl w.heap.size w).alloc (Nat.le_refl _) (.cells (ndA key pa na ca false pl nl cl line) 57))
  unfold ndA at BA
  have q0 : (key == sGroup) = false := by simpa using n0
  have q1 : (key == sUser) = false := by simpa using n1
  have q2 : (key == sAccess) = false := by simpa using n2
  have q3 : (key == sBreak) = false := by simpa using n3
  unfold sGroup at q0
  unfold sUser at q1
  unfold sAccess at q2
  unfold sBreak at q3
  clear n0 n1 n2 n3
  have HB := Lib.hid hB
  unfold ndV
  go_enter Tryz.func51, Tryz.ntmps51
  go_wp2_with fail
  go_ret
  exact ⟨rfl, BA.out.mono HB.out, kp_below BA.out, fun h => absurd (show (3 : Int) = 0 from h) (by decide)⟩
set_option maxRecDepth 100000 in
set_option maxHeartbeats 4000000 in
theorem tp_block (key : Bs) (pa pl : Option Addr) (na ca nl cl : Nat) (line : Int) (B lb mb : Nat) (us : Cn) (cf : Cf) (w : World) (hB : B ≤ w.heap.size) :
    Calls Tryz.prog 51 #[.pointer (some ⟨lb, 0, none⟩), ndV key pa na ca true pl nl cl line] w (TkPost B lb mb us ((3 : Int), cf) w) := by
  have BA := Lib.hid ((Below.refl w.heap.size w).alloc (Nat.le_refl _) (.cells (ndA key pa na ca true pl nl cl line) 57))
  unfold ndA at BA
  have HB := Lib.hid hB
  unfold ndV
  go_enter Tryz.func51, Tryz.ntmps51
  go_wp2_with fail
  go_ret
  exact ⟨rfl, BA.out.mono HB.out, kp_below BA.out, fun h => absurd (show (3 : Int) = 0 from h) (by decide)⟩
set_option maxRecDepth 100000 in
theorem takePlain_calls (n : Nd) (hs : ∀ t ∈ n.args, t.length ≤ 65536) (pa pl : Option Addr) (ca nl cl : Nat) (B lb mb : Nat) (us : Cn) (cf : Cf) (hc : Lim cf) (w : World) (h : LdS B lb mb us cf w) (ht : TxB B w pa ca n.args) :
    Calls Tryz.prog 51 #[.pointer (some ⟨lb, 0, none⟩), ndV n.key pa n.args.length ca n.block pl nl cl n.line] w (TkPost B lb mb us (plainM cf n.key n.args n.block) w) := by
  obtain ⟨key, args, block, list, line⟩ := n
  simp only [Nd.key, Nd.args, Nd.block, Nd.line] at hs ht ⊢
  unfold plainM
  cases block with
  | true => rw [if_pos rfl]; exact tp_block key pa pl _ ca nl cl line B lb mb us cf w h.lo
  | false =>
    rw [if_neg (by simp)]
    split
    · rename_i e; subst e; exact tp_group args _ rfl hs pa pl ca nl cl line B lb mb us cf hc w h ht
    rename_i n0
    split
    · rename_i e; subst e; exact tp_user args _ rfl hs pa pl ca nl cl line B lb mb us cf hc w h ht
    rename_i n1
    split
    · rename_i e; subst e; exact tp_access args _ rfl hs pa pl ca nl cl line B lb mb us cf hc w h ht
    rename_i n2
    split
    · rename_i e; subst e; exact tp_break args _ rfl hs pa pl ca nl cl line B lb mb us cf hc w h ht
    rename_i n3
    exact tp_else key pa pl _ ca nl cl line B lb mb us cf w h.lo n0 n1 n2 n3
end Go.Proofs.YtajfdachpdkbcaaGreatDoor.Conf
end

section
namespace Go.Proofs.YtajfdachpdkbcaaGreatDoor.Conf
open Go.RowKit Go.Proofs.YtajfdachpdkbcaaGreatDoor.Own Go.Proofs.YtajfdachpdkbcaaGreatDoor.Rw Go.Proofs.YtajfdachpdkbcaaGreatDoor.Tree Go.Proofs.YtajfdachpdkbcaaGreatDoor.KM

section
variable {B : Nat} {w w' : World} {lb mb : Nat} {v0 v1 v2 v3 : Value} {s : Sa} {f : Nm → Option Value} {n : Nat}
def preL (v0 v1 v2 v3 : Value) (bs : List Bs) : List Value := v0 :: v1 :: v2 :: v3 :: strs bs
theorem Ldr.tgt (h : Ldr B w lb mb v0 v1 v2 v3 s f n) : Tgt w lb 61 (preL v0 v1 v2 v3 s.cf.brks) s.us [.map (some mb)] := by
  unfold Tgt preL
  rw [h.blk]
  simp
theorem pre_len (h : Ldr B w lb mb v0 v1 v2 v3 s f n) : 14 = (preL v0 v1 v2 v3 s.cf.brks).length := by
  have := h.ten
  unfold preL
  simp only [List.length_cons, strs_len]
  omega
theorem Ldr.reus (h : Ldr B w lb mb v0 v1 v2 v3 s f n) {x : Cn} (ho : Out (fun k => k = lb) w w') (ht : Tgt w' lb 61 (preL v0 v1 v2 v3 s.cf.brks) x [.map (some mb)]) : Ldr B w' lb mb v0 v1 v2 v3 ⟨s.cf, x⟩ f n := by
  have hl := h.lt
  have hlow := h.low
  have hbel := ho.below hl.2.2.1 fun k e => by omega
  obtain ⟨gs, hg1, hg2⟩ := h.rows.grps
  refine ⟨hlow, ?_, ⟨own_out h.rows.cons ho fun k e e2 => own_type h.rows.cons h.blk (by decide) (e2 ▸ e), ⟨gs, own_out hg1 ho fun k e e2 => own_type hg1 h.blk (by decide) (e2 ▸ e), hg2.keep hbel⟩, own_out h.rows.usrs ho fun k e e2 => own_type h.rows.usrs h.blk (by decide) (e2 ▸ e), own_out h.rows.accs ho fun k e e2 => own_type h.rows.accs h.blk (by decide) (e2 ▸ e)⟩,
    h.map.kept (ho.block mb hl.2.1 (fun e => hl.2.2.2 e.symm)), h.ten, h.vals⟩
  unfold Tgt preL at ht
  rw [ht]
  simp
end
set_option maxRecDepth 100000 in
set_option maxHeartbeats 4000000 in
theorem takeDef_bad (key : Bs) (pa pl : Option Addr) (na ca nl cl : Nat) (block : Bool) (hb : block = false ∨ na ≠ 0) (line : Int) (B lb mb : Nat) (w : World) (hB : B ≤ w.heap.size) :
    Calls Tryz.prog 49 #[.pointer (some ⟨lb, 0, none⟩), ndV key pa na ca block pl nl cl line] w (TsPost B lb mb w (.bad 3 line)) := by
  have BA := Lib.hid ((Below.refl w.heap.size w).alloc (Nat.le_refl _) (.cells (ndA key pa na ca block pl nl cl line) 57))
  have HW := Lib.hid (wrong_some key pa pl na ca nl cl block line 3 (by decide))
  have HB := Lib.hid hB
  unfold ndA at BA
  unfold ndV at HW ⊢
  cases block with
  | false =>
    clear hb
    go_enter Tryz.func49, Tryz.ntmps49
    go_wp2_with fail
    refine (HW.out _).mono ?_
    rintro e w1 ⟨⟨g, rfl, hf, hg⟩, hb1⟩
    have B1 := Lib.hid (BA.out.trans (hb1.mono BA.out.size))
    clear hb1
    go_wp2_with fail
    go_ret
    exact TsPost.bad ⟨g, rfl, hf⟩ (B1.out.mono HB.out)
  | true =>
    have q1 : ((na : Int) != 0) = true := by
      rcases hb with hb | hb
      · cases hb
      · simp; omega
    clear hb
    go_enter Tryz.func49, Tryz.ntmps49
    go_wp2_with fail
    refine (HW.out _).mono ?_
    rintro e w1 ⟨⟨g, rfl, hf, hg⟩, hb1⟩
    have B1 := Lib.hid (BA.out.trans (hb1.mono BA.out.size))
    clear hb1
    go_wp2_with fail
    go_ret
    exact TsPost.bad ⟨g, rfl, hf⟩ (B1.out.mono HB.out)
set_option maxRecDepth 100000 in
set_option maxHeartbeats 4000000 in
theorem takeDef_one (L : List Nd) (hL : wbL L ≤ 65536) (n : Nat) (hn : n = L.length) (pa pl : Option Addr) (ca cl : Nat) (line : Int) (B lb mb : Nat) (s : Sa) (w : World) (h : LdS B lb mb s.us s.cf w) (hl : Nl B w (.slice pl n cl) L) :
    Calls Tryz.prog 49 #[.pointer (some ⟨lb, 0, none⟩), ndV sDefault pa 0 ca true pl n cl line] w (TsPost B lb mb w (defM s (.mk sDefault [] true L line))) := by
  obtain ⟨v0, v1, v2, v3, f, m, hLd, hNm⟩ := h
  obtain ⟨cf, us⟩ := s
  dsimp only at hLd hNm
  obtain ⟨pu, ku, rfl, hrd, hpu⟩ := own_rd2 hLd.rows.cons
  have HNl := Lib.hid hl
  have hlt := hLd.lt
  have hown := hLd.rows.cons
  have BA := Lib.hid ((Below.refl w.heap.size w).alloc (Nat.le_refl _) (.cells (ndA sDefault pa 0 ca true pl n cl line) 57))
  have NA := Lib.hid (at_new w (.cells (ndA sDefault pa 0 ca true pl n cl line) 57))
  have LA := hLd.below BA.out
  have HLA := Lib.hid LA
  have HNm := Lib.hid hNm
  obtain ⟨r, hr⟩ : ∃ r, defM ⟨cf, us⟩ (.mk sDefault [] true L line) = r := ⟨_, rfl⟩
  have HR := Lib.hid (show r = (match setsM cf.cons us L with
      | .bad c l => .bad c l
      | .ok x => .ok ⟨cf, x⟩) by rw [← hr]; rfl)
  rw [hr]
  have K : ∀ W : World, Below (w.alloc (.cells (ndA sDefault pa 0 ca true pl n cl line) 57)).heap.size (w.alloc (.cells (ndA sDefault pa 0 ca true pl n cl line) 57)) W → LdK W lb lb (preL (.slice pu cf.cons.length ku) v1 v2 v3 cf.brks) pu ku v1 v2 v3 cf.brks cf.cons := fun W hW => by
    have LW := LA.below hW
    refine ⟨LW.lt.1, fun i x hx => LW.cell ?_, (hrd.below BA.out).below hW, fun a e e2 => ?_, fun _ => rfl, LW.ten⟩
    · have hi := (List.getElem?_eq_some_iff.1 hx).1
      rw [← hx]
      have e : (Value.slice pu cf.cons.length ku :: v1 :: v2 :: v3 :: (strs cf.brks ++ (cnv us ++ [.map (some mb)]))) = (Value.slice pu cf.cons.length ku :: v1 :: v2 :: v3 :: strs cf.brks) ++ (cnv us ++ [.map (some mb)]) := by simp
      dsimp only
      rw [e, List.getElem?_append_left hi]
    · exact own_type hown hLd.blk (by decide) (by rw [e]; show some a.block = _; rw [e2])
  have HS := Lib.hid fun (W : World) (hW : Below (w.alloc (.cells (ndA sDefault pa 0 ca true pl n cl line) 57)).heap.size (w.alloc (.cells (ndA sDefault pa 0 ca true pl n cl line) 57)) W) => setAll_calls L n hn hL B pl cl lb lb 14 hLd.low.1 61 (preL (.slice pu cf.cons.length ku) v1 v2 v3 cf.brks) [.map (some mb)] us (pre_len hLd) pu ku v1 v2 v3 cf.brks cf.cons W (LA.below hW).tgt (K W hW) (hl.keep ((BA.out.mono hlt.2.2.1).trans (hW.mono (by have := BA.out.size; omega))))
  have hlow := hLd.low
  unfold ndA sDefault at BA NA HS HLA
  unfold ndV sDefault
  clear K hn hL hLd hNm hl hrd hpu hr LA hown
  obtain ⟨rr, hrr⟩ : ∃ rr, setsM cf.cons us L = rr := ⟨_, rfl⟩
  rw [hrr] at HS HR
  clear hrr
  go_enter Tryz.func49, Tryz.ntmps49
  go_wp2_with fail
  generalize w.alloc (.cells #[.string ⟨#[100, 101, 102, 97, 117, 108, 116]⟩, .slice pa 0 ca, .bool true, .slice pl n cl, .int .i64 line] 57) = W at *
  have x3 := (at_cell NA.out 3 : _ = some (Value.slice pl n cl))
  have l8 := at_lt NA.out
  go_still_tail 6, (by kernel_rfl)
  change wpList _ _ _ _ _ W.drew
  go_wp2_with fail
  refine (HS.out _ (Below.refl W.heap.size W).drew).mono ?_
  intro e w7 hp
  have HB7 : ∀ {w7 : World}, Out (fun k => k = lb) W.drew w7 → Below B w w7 := fun ho => (BA.out.mono hlt.2.2.1).trans ((Own.Out.ofDrew ho).below (by have := BA.out.size; omega) fun k e => by have e : k = lb := e; omega)
  cases hp with
  | @bad v c l _ he ho =>
    obtain ⟨g, rfl, hf⟩ := he
    have B7 := Lib.hid (HB7 ho)
    have HR3 := Lib.hid (show r = .bad c l from HR.out)
    clear ho HB7
    go_wp2_with fail
    go_ret
    rw [HR3.out]
    exact TsPost.bad ⟨g, rfl, hf⟩ B7.out
  | @ok x _ ho ht =>
    have B7 := Lib.hid (HB7 ho)
    have HR3 := Lib.hid (show r = .ok ⟨cf, x⟩ from HR.out)
    have L7 := Lib.hid (HLA.out.reus (Own.Out.ofDrew ho) ht)
    clear ho ht HB7
    go_wp2_with fail
    go_ret
    rw [HR3.out]
    exact TsPost.ok ⟨_, _, _, _, _, _, L7.out, HNm.out⟩ B7.out
end Go.Proofs.YtajfdachpdkbcaaGreatDoor.Conf
end


/-
Layer 15 (conf): a statement, whichever it is.
Layer 15 (conf): Usual; the loader that took nothing yet.
Layer 13 (tree): all.
Layer 13 (tree): the closure that catches what was given up.
Layer 12 (lex): first, walked.
Layer 9 (fault): the line of an error, walked.
Layer 12 (lex): Read, walked.
Layer 12 (lex): pieces that were read, in memory.
Layer 13 (tree): Read.
Layer 15 (conf): Load.
-/
import Derived.Test.YtajfdachpdkbcaaGreatDoorPack12
import Derived.Recover
import Derived.Defers
import Derived.Stop.Asserts
section
namespace Go.Proofs.YtajfdachpdkbcaaGreatDoor.Conf
open Go.RowKit Go.Proofs.YtajfdachpdkbcaaGreatDoor.Own Go.Proofs.YtajfdachpdkbcaaGreatDoor.Rw Go.Proofs.YtajfdachpdkbcaaGreatDoor.Tree Go.Proofs.YtajfdachpdkbcaaGreatDoor.KM

theorem TsPost.up {B lb mb : Nat} {r : Rz Sa} {w w1 w' : World} {e : Ending} (hB : B ≤ w.heap.size) (hb : Below w.heap.size w w1) (h : TsPost B lb mb w1 r e w') : TsPost B lb mb w r e w' := by
  cases h with
  | bad he ho => exact .bad he ((hb.mono hB).trans ho)
  | ok h1 h2 => exact .ok h1 ((hb.mono hB).trans h2)
theorem takeCon_calls (x : Nd) (hk : x.key = sConsole) (hx : wbN x ≤ 65536) (pa pl : Option Addr) (ca cl : Nat) (B lb mb : Nat) (s : Sa) (hcf : s.cf.cons.length ≤ 65536) (w : World) (h : LdS B lb mb s.us s.cf w) (hn : NdB B w x pa ca pl cl) :
    Calls Tryz.prog 48 #[.pointer (some ⟨lb, 0, none⟩), ndV x.key pa x.args.length ca x.block pl x.list.length cl x.line] w (TsPost B lb mb w (conM s x)) := by
  obtain ⟨p1, p2, p3⟩ := wb_parts x
  obtain ⟨key, args, block, L, line⟩ := x
  obtain ⟨ht, hl⟩ := hn
  simp only [Nd.key, Nd.args, Nd.block, Nd.list, Nd.line] at *
  subst hk
  by_cases hb : block = false ∨ args.length ≠ 1
  · have e : conM s (.mk sConsole args block L line) = .bad 3 line := by
      unfold conM
      simp only [Nd.args, Nd.block]
      split
      · rcases hb with hb | hb
        · rw [if_pos hb]; rfl
        · simp at hb
      · rfl
    rw [e]
    exact takeCon_bad sConsole pa pl _ ca _ cl block hb line B lb mb w h.lo
  · have hb1 : block = true := by cases block <;> simp_all
    have hb2 : args.length = 1 := by
      by_cases e : args.length = 1
      · exact e
      · exact absurd (.inr e) hb
    subst hb1
    obtain ⟨nm, rfl⟩ := List.length_eq_one_iff.1 hb2
    exact takeCon_one nm (by have := p1 nm (by simp); omega) L (by have := p3 rfl; omega) _ rfl pa pl ca cl line B lb mb s hcf w h ht hl
theorem takeDef_calls (x : Nd) (hk : x.key = sDefault) (hx : wbN x ≤ 65536) (pa pl : Option Addr) (ca cl : Nat) (B lb mb : Nat) (s : Sa) (w : World) (h : LdS B lb mb s.us s.cf w) (hn : NdB B w x pa ca pl cl) :
    Calls Tryz.prog 49 #[.pointer (some ⟨lb, 0, none⟩), ndV x.key pa x.args.length ca x.block pl x.list.length cl x.line] w (TsPost B lb mb w (defM s x)) := by
  obtain ⟨p1, p2, p3⟩ := wb_parts x
  obtain ⟨key, args, block, L, line⟩ := x
  obtain ⟨ht, hl⟩ := hn
  simp only [Nd.key, Nd.args, Nd.block, Nd.list, Nd.line] at *
  subst hk
  by_cases hb : block = false ∨ args.length ≠ 0
  · have e : defM s (.mk sDefault args block L line) = .bad 3 line := by
      unfold defM
      simp only [Nd.args, Nd.block]
      split
      · rcases hb with hb | hb
        · exact if_pos hb
        · simp at hb
      · rfl
    rw [e]
    exact takeDef_bad sDefault pa pl _ ca _ cl block hb line B lb mb w h.lo
  · have hb1 : block = true := by cases block <;> simp_all
    have hb2 : args.length = 0 := by
      by_cases e : args.length = 0
      · exact e
      · exact absurd (.inr e) hb
    subst hb1
    obtain rfl := List.eq_nil_of_length_eq_zero hb2
    exact takeDef_one L (by have := p3 rfl; omega) _ rfl pa pl ca cl line B lb mb s w h hl
theorem five_kp {w w' : World} {g : Nat} {key : Bs} {pa pl : Option Addr} {na ca nl cl : Nat} {block : Bool} {line : Int} (h : w.heap[g]? = some (.cells (ndA key pa na ca block pl nl cl line) 57 (0, 0))) (hk : Kp w w') : w'.heap[g]? = some (.cells (ndA key pa na ca block pl nl cl line) 57 (0, 0)) := hk _ _ _ h

set_option maxRecDepth 100000 in
set_option maxHeartbeats 4000000 in
theorem take_con (x : Nd) (hk : x.key = sConsole) (hx : wbN x ≤ 65536) (pa pl : Option Addr) (ca cl : Nat) (B lb mb : Nat) (s : Sa) (hcf : s.cf.cons.length ≤ 65536) (w : World) (h : LdS B lb mb s.us s.cf w) (hn : NdB B w x pa ca pl cl) :
    Calls Tryz.prog 21 #[.pointer (some ⟨lb, 0, none⟩), ndV x.key pa x.args.length ca x.block pl x.list.length cl x.line] w (TsPost B lb mb w (conM s x)) := by
  have HB := Lib.hid h.lo
  have BA := Lib.hid ((Below.refl w.heap.size w).alloc (Nat.le_refl _) (.cells (ndA x.key pa x.args.length ca x.block pl x.list.length cl x.line) 57))
  have HC := Lib.hid (takeCon_calls x hk hx pa pl ca cl B lb mb s hcf _ (h.below BA.out) (hn.keep (BA.out.mono HB.out)))
  obtain ⟨r, hr⟩ : ∃ r, conM s x = r := ⟨_, rfl⟩
  rw [hr] at HC ⊢
  obtain ⟨key, args, block, L, line⟩ := x
  simp only [Nd.key, Nd.args, Nd.block, Nd.list, Nd.line] at hk HC BA ⊢
  subst hk
  unfold ndA sConsole at HC BA
  unfold ndV at HC ⊢
  unfold sConsole
  generalize args.length = na at *
  generalize L.length = nl at *
  clear h hn hx hr hcf
  go_enter Tryz.func21, Tryz.ntmps21
  go_wp2_with fail
  refine HC.out.mono ?_
  intro e w1 hp
  have HP := Lib.hid (TsPost.up HB.out BA.out hp)
  cases hp with
  | bad he ho =>
    go_wp2_with fail
    go_ret
    exact HP.out
  | ok h1 h2 =>
    go_wp2_with fail
    go_ret
    exact HP.out
set_option maxRecDepth 100000 in
set_option maxHeartbeats 4000000 in
theorem take_def (x : Nd) (hk : x.key = sDefault) (hx : wbN x ≤ 65536) (pa pl : Option Addr) (ca cl : Nat) (B lb mb : Nat) (s : Sa) (w : World) (h : LdS B lb mb s.us s.cf w) (hn : NdB B w x pa ca pl cl) :
    Calls Tryz.prog 21 #[.pointer (some ⟨lb, 0, none⟩), ndV x.key pa x.args.length ca x.block pl x.list.length cl x.line] w (TsPost B lb mb w (defM s x)) := by
  have HB := Lib.hid h.lo
  have BA := Lib.hid ((Below.refl w.heap.size w).alloc (Nat.le_refl _) (.cells (ndA x.key pa x.args.length ca x.block pl x.list.length cl x.line) 57))
  have HC := Lib.hid (takeDef_calls x hk hx pa pl ca cl B lb mb s _ (h.below BA.out) (hn.keep (BA.out.mono HB.out)))
  obtain ⟨r, hr⟩ : ∃ r, defM s x = r := ⟨_, rfl⟩
  rw [hr] at HC ⊢
  obtain ⟨key, args, block, L, line⟩ := x
  simp only [Nd.key, Nd.args, Nd.block, Nd.list, Nd.line] at hk HC BA ⊢
  subst hk
  unfold ndA sDefault at HC BA
  unfold ndV at HC ⊢
  unfold sDefault
  generalize args.length = na at *
  generalize L.length = nl at *
  clear h hn hx hr
  go_enter Tryz.func21, Tryz.ntmps21
  go_wp2_with fail
  refine HC.out.mono ?_
  intro e w1 hp
  have HP := Lib.hid (TsPost.up HB.out BA.out hp)
  cases hp with
  | bad he ho =>
    go_wp2_with fail
    go_ret
    exact HP.out
  | ok h1 h2 =>
    go_wp2_with fail
    go_ret
    exact HP.out
set_option maxRecDepth 100000 in
set_option maxHeartbeats 4000000 in
theorem take_plain (x : Nd) (n1 : x.key ≠ sConsole) (n2 : x.key ≠ sDefault) (hx : wbN x ≤ 65536) (pa pl : Option Addr) (ca cl : Nat) (B lb mb : Nat) (s : Sa) (hc : Lim s.cf) (w : World) (h : LdS B lb mb s.us s.cf w) (hn : NdB B w x pa ca pl cl) :
    Calls Tryz.prog 21 #[.pointer (some ⟨lb, 0, none⟩), ndV x.key pa x.args.length ca x.block pl x.list.length cl x.line] w (TsPost B lb mb w (if (plainM s.cf x.key x.args x.block).1 = 0 then .ok ⟨(plainM s.cf x.key x.args x.block).2, s.us⟩ else .bad (plainM s.cf x.key x.args x.block).1 x.line)) := by
  have HB := Lib.hid h.lo
  have HNK := Lib.hid (at_new w (.cells (ndA x.key pa x.args.length ca x.block pl x.list.length cl x.line) 57))
  have HBK := Lib.hid ((Below.refl w.heap.size w).alloc (Nat.le_refl _) (.cells (ndA x.key pa x.args.length ca x.block pl x.list.length cl x.line) 57))
  obtain ⟨p1, p2, p3⟩ := wb_parts x
  have HA1 := Lib.hid fun (W : World) (hW : Below w.heap.size w W) => takePlain_calls x (fun t ht => by have := p1 t ht; omega) pa pl ca x.list.length cl B lb mb s.us s.cf hc W (h.below hW) (hn.keep (hW.mono h.lo)).args
  obtain ⟨sm, hsm⟩ : ∃ sm, plainM s.cf x.key x.args x.block = sm := ⟨_, rfl⟩
  rw [hsm] at HA1 ⊢
  obtain ⟨rr, hrr⟩ : ∃ rr, (if sm.1 = 0 then .ok ⟨sm.2, s.us⟩ else .bad sm.1 x.line : Rz Sa) = rr := ⟨_, rfl⟩
  rw [hrr]
  have HRR := Lib.hid hrr
  clear hrr
  obtain ⟨key, args, block, L, line⟩ := x
  simp only [Nd.key, Nd.args, Nd.block, Nd.list, Nd.line] at n1 n2 HA1 HNK HBK HRR ⊢
  have q1 : (key == sConsole) = false := by simpa using n1
  have q2 : (key == sDefault) = false := by simpa using n2
  unfold sConsole at q1
  unfold sDefault at q2
  unfold ndA at HNK HBK
  unfold ndV at HA1 ⊢
  generalize args.length = na at *
  generalize L.length = nl at *
  clear h hn hx hsm p1 p2 p3 n1 n2 hc
  unfold TkPost at HA1
  have HW0 := Lib.hid (wrong_nil key pa pl na ca nl cl block line)
  have HWS := Lib.hid (wrong_some key pa pl na ca nl cl block line)
  unfold ndV at HW0 HWS
  go_enter Tryz.func21, Tryz.ntmps21
  go_wp2_with fail
  obtain ⟨W, hW⟩ : ∃ W, W = w.alloc (.cells #[.string ⟨key.toArray⟩, .slice pa na ca, .bool block, .slice pl nl cl, .int .i64 line] 57) := ⟨_, rfl⟩
  rw [← hW] at HNK HBK ⊢
  clear hW
  have hlW := at_lt HNK.out
  have hzW := HBK.out.size
  have x5 := Lib.hid (five_at HNK.out)
  unfold Five at x5
  obtain ⟨x0, x1, x2, x3, x4⟩ := x5.out
  have hBg := HB.out
  generalize hg8 : w.heap.size = g8 at *
  clear q1 q2
  by_cases hc : sm.1 = 0
  · obtain ⟨c0, c'⟩ := sm
    obtain rfl : c0 = 0 := hc
    have HR2 := Lib.hid (show rr = .ok ⟨c', s.us⟩ from HRR.out.symm)
    go_region_held3 (fun w' => w'.cell? ⟨g8, 0, none⟩ = some (.string ⟨key.toArray⟩) ∧ w'.cell? ⟨g8, 0 + 1, none⟩ = some (.slice pa na ca) ∧ w'.cell? ⟨g8, 0 + 2, none⟩ = some (.bool block) ∧ w'.cell? ⟨g8, 0 + 3, none⟩ = some (.slice pl nl cl) ∧ w'.cell? ⟨g8, 0 + 4, none⟩ = some (.int .i64 line) ∧ w'.cell? ⟨g8, 0, none⟩ = some (.string ⟨key.toArray⟩) ∧ w'.cell? ⟨g8, 0 + 1, none⟩ = some (.slice pa na ca) ∧ w'.cell? ⟨g8, 0 + 2, none⟩ = some (.bool block) ∧ w'.cell? ⟨g8, 0 + 3, none⟩ = some (.slice pl nl cl) ∧ w'.cell? ⟨g8, 0 + 4, none⟩ = some (.int .i64 line))
      (first
        | exact ⟨x0, x1, x2, x3, x4, x0, x1, x2, x3, x4⟩
        | exact ⟨y5.out.1, y5.out.2.1, y5.out.2.2.1, y5.out.2.2.2.1, y5.out.2.2.2.2, y5.out⟩
        | exact ⟨y6.out.1, y6.out.2.1, y6.out.2.2.1, y6.out.2.2.2.1, y6.out.2.2.2.2, y6.out⟩)
      (first
        | (go_at_call 51; refine (HA1.out _ (by first | exact HBK.out | exact HBK.out.drew | exact below_drew HBK.out)).mono ?_; rintro e w5 ⟨rfl, ho5, hk5, ht5⟩; have B5 : Hid (Below B W w5) := Lib.hid ⟨ho5.os, ho5.tape, ho5.output, ho5.size, ho5.block⟩; have K5 : Hid (Kp W w5) := Lib.hid hk5; have y5 := Lib.hid (five_at (five_kp HNK.out K5.out)); have T5 := Lib.hid (ht5 rfl))
        | (go_at_call 50; refine (HW0.out _).mono ?_; rintro e w6 ⟨rfl, hb6⟩; replace hb6 : Below w5.heap.size w5 w6 := ⟨hb6.os, hb6.tape, hb6.output, hb6.size, hb6.block⟩; have y6 := Lib.hid (five_below y5.out (at_lt (five_kp HNK.out K5.out)) hb6)))
    all_goals
      have B6 := Lib.hid (((HBK.out.mono hBg).trans B5.out).trans (hb6.mono (by have := B5.out.size; omega)))
      have T6 := Lib.hid (T5.out.below hb6)
      clear HA1 HW0 HWS x0 x1 x2 x3 x4 x5 hb6 y6
      clear hlW hzW
      go_wp2_with fail
      go_ret
      rw [HR2.out]
      exact TsPost.ok (s := ⟨c', s.us⟩) T6.out B6.out
  · obtain ⟨cd, c'⟩ := sm
    have HCN : Hid (cd ≠ 0) := Lib.hid hc
    have HR2 := Lib.hid (show rr = .bad cd line by rw [← HRR.out]; exact if_neg hc)
    clear hc
    go_region_held3 (fun w' => w'.cell? ⟨g8, 0, none⟩ = some (.string ⟨key.toArray⟩) ∧ w'.cell? ⟨g8, 0 + 1, none⟩ = some (.slice pa na ca) ∧ w'.cell? ⟨g8, 0 + 2, none⟩ = some (.bool block) ∧ w'.cell? ⟨g8, 0 + 3, none⟩ = some (.slice pl nl cl) ∧ w'.cell? ⟨g8, 0 + 4, none⟩ = some (.int .i64 line) ∧ w'.cell? ⟨g8, 0, none⟩ = some (.string ⟨key.toArray⟩) ∧ w'.cell? ⟨g8, 0 + 1, none⟩ = some (.slice pa na ca) ∧ w'.cell? ⟨g8, 0 + 2, none⟩ = some (.bool block) ∧ w'.cell? ⟨g8, 0 + 3, none⟩ = some (.slice pl nl cl) ∧ w'.cell? ⟨g8, 0 + 4, none⟩ = some (.int .i64 line))
      (first
        | exact ⟨x0, x1, x2, x3, x4, x0, x1, x2, x3, x4⟩
        | exact ⟨y5.out.1, y5.out.2.1, y5.out.2.2.1, y5.out.2.2.2.1, y5.out.2.2.2.2, y5.out⟩
        | exact ⟨y6.out.1, y6.out.2.1, y6.out.2.2.1, y6.out.2.2.2.1, y6.out.2.2.2.2, y6.out⟩)
      (first
        | (go_at_call 51; refine (HA1.out _ (by first | exact HBK.out | exact HBK.out.drew | exact below_drew HBK.out)).mono ?_; rintro e w5 ⟨rfl, ho5, hk5, ht5⟩; have B5 : Hid (Below B W w5) := Lib.hid ⟨ho5.os, ho5.tape, ho5.output, ho5.size, ho5.block⟩; have K5 : Hid (Kp W w5) := Lib.hid hk5; have y5 := Lib.hid (five_at (five_kp HNK.out K5.out)))
        | (go_at_call 50; refine (HWS.out _ HCN.out _).mono ?_; rintro e w6 ⟨⟨gf, rfl, hf, hfg⟩, hb6⟩; replace hb6 : Below w5.heap.size w5 w6 := ⟨hb6.os, hb6.tape, hb6.output, hb6.size, hb6.block⟩; have y6 := Lib.hid (five_below y5.out (at_lt (five_kp HNK.out K5.out)) hb6)))
    all_goals
      have B6 := Lib.hid (((HBK.out.mono hBg).trans B5.out).trans (hb6.mono (by have := B5.out.size; omega)))
      have E6 := Lib.hid (show Er w6 (.iface 97 (.pointer (some ⟨gf, 0, none⟩))) cd line from ⟨gf, rfl, hf⟩)
      clear HA1 HW0 HWS x0 x1 x2 x3 x4 x5 hb6 y6 hf hfg
      clear hlW hzW
      go_wp2_with fail
      go_ret
      rw [HR2.out]
      exact TsPost.bad E6.out B6.out
theorem take_calls (x : Nd) (hx : wbN x ≤ 65536) (pa pl : Option Addr) (ca cl : Nat) (B lb mb : Nat) (s : Sa) (hc : Lim s.cf) (hcf : s.cf.cons.length ≤ 65536) (w : World) (h : LdS B lb mb s.us s.cf w) (hn : NdB B w x pa ca pl cl) :
    Calls Tryz.prog 21 #[.pointer (some ⟨lb, 0, none⟩), ndV x.key pa x.args.length ca x.block pl x.list.length cl x.line] w (TsPost B lb mb w (stepM s x)) := by
  unfold stepM
  split
  · exact take_con x (by assumption) hx pa pl ca cl B lb mb s hcf w h hn
  · rename_i n1
    split
    · exact take_def x (by assumption) hx pa pl ca cl B lb mb s w h hn
    · rename_i n2
      exact take_plain x n1 n2 hx pa pl ca cl B lb mb s hc w h hn
end Go.Proofs.YtajfdachpdkbcaaGreatDoor.Conf
end

section
namespace Go.Proofs.YtajfdachpdkbcaaGreatDoor.Conf
open Go.RowKit Go.Proofs.YtajfdachpdkbcaaGreatDoor.Own Go.Proofs.YtajfdachpdkbcaaGreatDoor.Rw Go.Proofs.YtajfdachpdkbcaaGreatDoor.Tree Go.Proofs.YtajfdachpdkbcaaGreatDoor.KM

def usualV : Value := .agg #[.string ⟨#[]⟩, .int .i64 1, .int .i64 20, .int .i64 4096, .int .i64 3, .int .i64 4096, .int .i64 1, .int .i64 64, .int .i64 4, .string ⟨#[]⟩]
set_option maxRecDepth 100000 in
theorem usual_calls (w : World) : Calls Tryz.prog 47 #[] w fun e w' => e = .returned usualV ∧ Below w.heap.size w w' := by
  go_enter Tryz.func47, Tryz.ntmps47
  go_wp2_with fail
  have N := at_new w (.cells #[.string ⟨#[]⟩, .int .i64 1, .int .i64 20, .int .i64 4096, .int .i64 3, .int .i64 4096, .int .i64 1, .int .i64 64, .int .i64 4, .string ⟨#[]⟩] 42)
  have c0 := (at_cell N 0 : _ = some (Value.string ⟨#[]⟩))
  have c1 := (at_cell N 1 : _ = some (Value.int .i64 1))
  have c2 := (at_cell N 2 : _ = some (Value.int .i64 20))
  have c3 := (at_cell N 3 : _ = some (Value.int .i64 4096))
  have c4 := (at_cell N 4 : _ = some (Value.int .i64 3))
  have c5 := (at_cell N 5 : _ = some (Value.int .i64 4096))
  have c6 := (at_cell N 6 : _ = some (Value.int .i64 1))
  have c7 := (at_cell N 7 : _ = some (Value.int .i64 64))
  have c8 := (at_cell N 8 : _ = some (Value.int .i64 4))
  have c9 := (at_cell N 9 : _ = some (Value.string ⟨#[]⟩))
  refine bodyPost_ret (v := usualV) ?_ rfl ?_
  · simp [results, Tryz.results47, go_sem, usualV, *]
  · exact ⟨rfl, (Below.refl w.heap.size w).alloc (Nat.le_refl _) _⟩
theorem make_map (w : World) : (Instr.makeMap 59 none).run Tryz.prog w = .ok (.map (some w.heap.size)) (w.alloc (.map #[] 0)) := by
  simp [Instr.makeMap, go_sem]
def freshA (mb : Nat) : Array Value := #[.slice none 0 0, .slice none 0 0, .slice none 0 0, .slice none 0 0, .string ⟨#[]⟩, .string ⟨#[]⟩, .string ⟨#[]⟩, .string ⟨#[]⟩, .string ⟨#[]⟩, .string ⟨#[]⟩, .string ⟨#[]⟩, .string ⟨#[]⟩, .string ⟨#[]⟩, .string ⟨#[]⟩,
  .string ⟨#[]⟩, .int .i64 1, .int .i64 20, .int .i64 4096, .int .i64 3, .int .i64 4096, .int .i64 1, .int .i64 64, .int .i64 4, .string ⟨#[]⟩, .map (some mb)]
theorem fresh_ldr {w1 w2 w3 : World} {B lb : Nat} (hB : B ≤ w1.heap.size) (hlb : lb = w1.heap.size + 1) (h2 : w2 = w1.alloc (.map #[] 0)) (h3 : w3 = w2.alloc (.cells (freshA w1.heap.size) 61)) : Ldr B w3 lb w1.heap.size (.slice none 0 0) (.slice none 0 0) (.slice none 0 0) (.slice none 0 0) ⟨empty, usual⟩ (fun _ => none) 0 := by
  have z2 : w2.heap.size = w1.heap.size + 1 := by rw [h2]; simp
  have K := KMap.made (P := Tryz.prog) (k := 198) (kv := nmv) w1
  rw [← h2] at K
  rw [hlb, ← z2]
  refine ⟨⟨by omega, hB⟩, ?_, ⟨World.ownsRow_nil _ _ _ _, ⟨[], World.ownsRow_nil _ _ _ _, .nil⟩, World.ownsRow_nil _ _ _ _, World.ownsRow_nil _ _ _ _⟩, K.kept ?_, rfl, fun a v h => by cases h⟩
  · rw [h3]; exact at_new w2 _
  · rw [h3]; exact Below.heap_alloc _ _ _ (by omega)
def NewPost (w : World) (e : Ending) (w' : World) : Prop := ∃ lb mb, e = .returned (.pointer (some ⟨lb, 0, none⟩)) ∧ Ldr w.heap.size w' lb mb (.slice none 0 0) (.slice none 0 0) (.slice none 0 0) (.slice none 0 0) ⟨empty, usual⟩ (fun _ => none) 0 ∧ Below w.heap.size w w'
set_option maxRecDepth 100000 in
set_option maxHeartbeats 1000000 in
theorem newLoader_calls (w : World) : Calls Tryz.prog 20 #[] w (NewPost w) := by
  have HU := Lib.hid (usual_calls w)
  have hmk := make_map
  unfold usualV at HU
  unfold NewPost
  go_enter Tryz.func20, Tryz.ntmps20
  go_wp2_with fail
  refine HU.out.mono ?_
  rintro e w1 ⟨rfl, hb1⟩
  go_wp2_with fail
  go_ret
  exact ⟨_, _, rfl, fresh_ldr hb1.size rfl rfl rfl, (hb1.alloc hb1.size _).alloc (by simp; have := hb1.size; omega) _⟩
end Go.Proofs.YtajfdachpdkbcaaGreatDoor.Conf
end

section
namespace Go.Proofs.YtajfdachpdkbcaaGreatDoor.Tree
open Go.RowKit Go.Proofs.YtajfdachpdkbcaaGreatDoor.Own Go.Proofs.YtajfdachpdkbcaaGreatDoor.Rw Go.Proofs.YtajfdachpdkbcaaGreatDoor.Lex

set_option maxRecDepth 100000 in
set_option maxHeartbeats 4000000 in
theorem all_calls (P : List Pc) (p : Option Addr) (c rb : Nat) (w : World) (h : Rd w P p c rb 0) (hp : ∀ a, p = some a → a.block < w.heap.size) :
    Calls Tryz.prog 46 #[.pointer (some ⟨rb, 0, none⟩)] w fun e w' => BkPost P p c rb 0 w e w' (treeOf P) := by
  obtain ⟨i0, hi, hz0, hz1, hz2⟩ := info_parts info_node
  have HP := Lib.hid hp
  have H := Lib.hid h
  clear h hp
  go_enter Tryz.func46, Tryz.ntmps46
  go_wp2_with fail
  go_loopw [3] (fun v wr => ∃ (acc : List Nd) (xs : List Value) (k1 f1 m : Nat) (wo : World), wr = wo.drewN m ∧ BlkAt P p c rb 0 w wo acc v xs k1 ∧ P.length - k1 < f1 ∧ alls (lastOf P) f1 acc (P.drop k1) = treeOf P) (fun _ wr => Tree.left P rb wr)
  case atStart => exact ⟨[], [], 0, P.length + 1, 0, w, rfl, .start H.out, by omega, rfl⟩
  case round =>
    obtain ⟨acc, xs, k1, f1, m, wo, rfl, C, hf2, hbk⟩ := hrel
    have HC := Lib.hid C
    have HBK := Lib.hid hbk
    have hk1 := C.rd.le
    have hfew := C.rd.few
    have hac := C.few
    have hs := C.out.size
    have hcap := C.rd.pcs.cap
    have hmax := C.rd.pcs.max
    unfold maxLen at hmax
    obtain ⟨vp, vc, rfl⟩ := own_form C.own
    have e0 : wo.cell? ⟨rb, 0, none⟩ = some (.slice p P.length c) := at_cell C.rd.at_ 0
    have e1 : wo.cell? ⟨rb, 1, none⟩ = some (.int .i64 k1) := at_cell C.rd.at_ 1
    clear C hbk
    obtain ⟨f2, rfl⟩ : ∃ f2, f1 = f2 + 1 := ⟨f1 - 1, by omega⟩
    rcases Nat.lt_or_eq_of_le hk1 with hl | hl
    · have q1 : (k1 : Int) < (P.length : Int) := by omega
      have hne : P ≠ [] := by intro e; rw [e] at hl; simp at hl
      go_wp2_with fail
      go_quiet (fail)
      have HN := Lib.hid fun n => next_ok P p c rb k1 (wo.drewN n) (HC.out.rd.kept (Rw.below_drew (Below.refl _ _))) hl
      have HD := Lib.hid (drop_at hl)
      generalize P[k1] = x at HN HD
      have HSC := Lib.hid fun w5 (h5 : Rd w5 P p c rb (k1 + 1)) => stm_calls P p c rb (fun d r => blk (lastOf P) f2 d [] r) 0 (k1 + 1) (by omega) (by omega) x w5 h5 fun h4 k2 w1 hk2 hr2 => blk_calls P p c rb hne f2 (0 + 1) k2 _ w1 (by simp) (by omega) (by omega) (by omega) hr2
      have HST := Lib.hid (show treeOf P = thenB (fun n r2 => alls (lastOf P) f2 (acc ++ [n]) r2) (stm (lastOf P) (fun d r => blk (lastOf P) f2 d [] r) 0 x (P.drop (k1 + 1))) by
        rw [← HBK.out, HD.out]
        cases e : stm (lastOf P) (fun d r => blk (lastOf P) f2 d [] r) 0 x (P.drop (k1 + 1)) with
        | bad c l => exact alls_bad _ _ _ e
        | ok n r2 => exact alls_ok _ _ _ e)
      obtain ⟨kx, t2, l2⟩ := x
      unfold pcv at HN HSC
      generalize stm (lastOf P) (fun d r => blk (lastOf P) f2 d [] r) 0 ⟨kx, t2, l2⟩ (P.drop (k1 + 1)) = r1 at HSC HST
      go_wp2_with fail
      refine (HN.out _).mono ?_
      rintro e w5 ⟨rfl, hr5, ho5⟩
      have ho5' : Out (OnlyR rb) wo w5 := ho5.ofDrewN
      clear ho5
      go_wp2_with fail
      refine (HSC.out _ hr5).mono ?_
      intro e w7 hPost
      cases hPost with
      | bad hG =>
        obtain ⟨g, rfl, hfa, ho⟩ := hG
        refine ⟨rfl, ?_⟩
        rw [HST.out]
        exact .bad ⟨g, rfl, hfa, (HC.out.out.trans ho5' fun _ _ h => h).trans ho fun _ _ h => h⟩
      | @ok nd k2 va vl he hn hr7 hk7 ho7 =>
        subst he
        have HH := Lib.hid (HC.out.own_at ho5' (Below.refl _ _) ho7)
        obtain ⟨⟨ap, ac, rfl⟩, lp, lc, rfl⟩ := hn.forms
        have hone := Lib.hid (Ls.one hn)
        have HNO := Lib.hid hn
        have HR7 := Lib.hid hr7
        have HO7 := Lib.hid ho7
        have HO5 := Lib.hid ho5'
        have hs7 := HH.out.2.2.1.size
        clear hn hr7 ho7 ho5' hr5
        unfold str at HNO hone ⊢
        go_wp2_with (at_builtin; refine wpList_append_own_at _ rfl (.tmp 14) (.tmp 19) 50 rfl w.heap.size 57 i0 _ 5 80 Tryz.underlying50 hi hz0 hz1 hz2 rfl (by decide) _ _ _ rfl (World.ownsRow.alloc HH.out.1 _) _ 1 1 [.string ⟨nd.key.toArray⟩, .slice ap nd.args.length ac, .bool nd.block, .slice lp nd.list.length lc, .int .i64 nd.line] rfl rfl (five_new _ _ _ _ _ _ _ _ rfl) hone.out (by unfold maxLen; omega) (by omega) (by simp; omega) ?_; intro v' w1 hown1 hgrow1 _ hob; have C1 := Lib.hid (HC.out.step HP.out HO5.out (Below.refl _ _) HO7.out HNO.out HR7.out hk7 ((Below.refl _ _).alloc (Nat.le_refl _) _) hown1 hgrow1 hob); clear hown1 hgrow1 hob)
        go_roundw
        case rel =>
          obtain ⟨ys, C2⟩ := C1.out
          exact ⟨_, ys, k2, f2, 0, _, rfl, C2, by omega, HST.out.symm⟩
        case measure =>
          obtain ⟨ys, C2⟩ := C1.out
          show Tree.left P rb _ < Tree.left P rb wo
          rw [C2.rd.left, HC.out.rd.left]; omega
    · have HS := Lib.hid (show treeOf P = .ok acc (P.drop k1) by rw [← HBK.out, drop_end hl, alls_nil])
      go_wp2_with fail
      go_quiet (fail)
      go_wp2_with fail
      go_ret
      rw [HS.out]
      exact .ok rfl (Fo.below ⟨xs, HC.out.own, HC.out.ls⟩ (Rw.below_drew (Rw.below_drew (Below.refl _ _)))) (HC.out.rd.kept (Rw.below_drew (Rw.below_drew (Below.refl _ _)))) (Nat.zero_le _) ((HC.out.out.drewN _).drewN _)
end Go.Proofs.YtajfdachpdkbcaaGreatDoor.Tree
end

section
namespace Go.Proofs.YtajfdachpdkbcaaGreatDoor.Tree
open Go.RowKit Go.Stop Go.Proofs.YtajfdachpdkbcaaGreatDoor.Own Go.Proofs.YtajfdachpdkbcaaGreatDoor.Rw Go.Proofs.YtajfdachpdkbcaaGreatDoor.Lex

theorem isErr (v : Value) (xT : TypeId) (w : World) : (Instr.typeAssert (.iface 97 v) xT 31 true).run Tryz.prog w = .ok (.tuple #[.iface 97 v, .bool true]) w := run_typeAssert_hasB Tryz.underlying31 (by kernel_rfl) v xT w
theorem noErr (xT : TypeId) (w : World) : (Instr.typeAssert .nilIface xT 31 true).run Tryz.prog w = .ok (.tuple #[.nilIface, .bool false]) w := by kernel_rfl

set_option maxRecDepth 100000 in
set_option maxHeartbeats 4000000 in
theorem catch_panicking (p : Addr) (v0 x : Value) (older : List PanicEntry) (w : World) (hc : w.cell? p = some v0) (hz : w.frozen? p = false) :
    CallsD Tryz.prog 45 #[.pointer (some p)] (.panicking ({ v := .iface 97 x, recovered := false } :: older)) w fun e u' w' =>
      e = .returned (.tuple #[]) ∧ u' = .panicking ({ v := .iface 97 x, recovered := true } :: older) ∧ w' = w.setCell p (.iface 97 x) := by
  have hA := isErr x
  refine callsD_of_wpS Tryz.func45 rfl fun c₀ cs hu => ?_
  apply wpS_seq
  apply wpS_region
  simp [wpOpsS, go_sem, recoverD, hu, Tryz.ntmps45, Exit.thenS, hA]
  apply wpS_seq
  apply wpS_region
  simp [wpOpsS, go_sem, Exit.thenS]
  refine wpS_cond (t := true) (by simp [Act.eval, Array.replicate]) ?_
  simp only [if_true]
  apply wpS_region
  simp [wpOpsS, go_sem, hc, hz, bodyPostS, results, Tryz.results45]

set_option maxRecDepth 100000 in
set_option maxHeartbeats 4000000 in
theorem catch_idle (p : Addr) (w : World) :
    CallsD Tryz.prog 45 #[.pointer (some p)] .returning w fun e u' w' => e = .returned (.tuple #[]) ∧ u' = .returning ∧ w' = w := by
  have hA := noErr
  refine callsD_of_wpS Tryz.func45 rfl fun c₀ cs hu => ?_
  apply wpS_seq
  apply wpS_region
  simp [wpOpsS, go_sem, recoverD, hu, Tryz.ntmps45, Exit.thenS, hA]
  apply wpS_seq
  apply wpS_region
  simp [wpOpsS, go_sem, Exit.thenS]
  refine wpS_cond (t := false) (by simp [Act.eval, Array.replicate]) ?_
  simp only [Bool.false_eq_true, if_false]
  refine wpS_of_wp (wp_skip ?_)
  cases c₀
  simp_all [bodyPostS, results, Tryz.results45]
end Go.Proofs.YtajfdachpdkbcaaGreatDoor.Tree
end

section
namespace Go.Proofs.YtajfdachpdkbcaaGreatDoor.Lex
open Go.RowKit Go.Proofs.YtajfdachpdkbcaaGreatDoor.Own

def FirstPost (s : ByteArray) (w : World) (e : Ending) (w' : World) : Prop :=
  ∃ (k : Int) (t : List UInt8) (n : Nat), e = .returned (.tuple #[.agg #[.int .i64 k, .string ⟨t.toArray⟩, .int .i64 0], .int .i64 n]) ∧ Below w.heap.size w w' ∧ (first s.data.toList = none ∧ n = 0 ∨ first s.data.toList = some (k, t, n) ∧ 0 < n)
theorem drop_one (s : ByteArray) (h : 0 < s.size) : s.data.toList = s[0] :: s.data.toList.drop 1 := by
  have := drop_at s 0 h; rwa [List.drop_zero] at this

theorem row3 {w : World} {b : Nat} {x y z : Value} {T : TypeId} (h : w.heap[b]? = some (.cells #[x, y, z] T (0, 0))) :
    w.cell? ⟨b, 0, none⟩ = some x ∧ w.cell? ⟨b, 1, none⟩ = some y ∧ w.cell? ⟨b, 2, none⟩ = some z ∧ w.frozen? ⟨b, 0, none⟩ = false ∧ w.frozen? ⟨b, 1, none⟩ = false ∧ w.frozen? ⟨b, 2, none⟩ = false :=
  ⟨by rw [at_cell h]; rfl, by rw [at_cell h]; rfl, by rw [at_cell h]; rfl, at_frozen h _, at_frozen h _, at_frozen h _⟩

set_option maxRecDepth 100000 in
set_option maxHeartbeats 4000000 in
theorem first_calls (s : ByteArray) (h0 : 0 < s.size) (hs : s.size ≤ 1099511627776) (w : World) :
    Calls Tryz.prog 80 #[.string s] w (FirstPost s w) := by
  have HD := Lib.hid (drop_one s h0)
  have h256 := s[0].toNat_lt
  have HU := Lib.hid (unquote_calls s h0 hs)
  have HS := Lib.hid (size_calls s)
  obtain ⟨n, hn⟩ : ∃ n, s[0].toNat = n := ⟨_, rfl⟩
  have HN := Lib.hid hn
  rw [hn] at h256
  rcases (show n = 123 ∨ n = 125 ∨ n = 59 ∨ n = 34 ∨ (n ≠ 123 ∧ n ≠ 125 ∧ n ≠ 59 ∧ n ≠ 34) by omega) with hc | hc | hc | hc | hc
  · have HF := Lib.hid (show first s.data.toList = some (3, [], 1) by rw [HD.out]; exact first_open (by omega) _)
    subst hc
    go_enter Tryz.func80, Tryz.ntmps80
    go_wp2_with (go_at_call 109; refine (marks_calls 123 (by omega) _).mono ?_; rintro e w5 ⟨rfl, rfl⟩; rw [show mkI 123 = 0 from rfl])
    refine bodyPost_ret (v := .tuple #[.agg #[.int .i64 3, .string ⟨#[]⟩, .int .i64 0], .int .i64 1]) ?_ rfl ⟨3, [], 1, rfl, (Below.refl _ _).alloc (Nat.le_refl _) _, .inr ⟨HF.out, by omega⟩⟩
    simp [results, Tryz.results80, go_sem, *]
  · have HF := Lib.hid (show first s.data.toList = some (4, [], 1) by rw [HD.out]; exact first_close (by omega) _)
    subst hc
    go_enter Tryz.func80, Tryz.ntmps80
    go_wp2_with (go_at_call 109; refine (marks_calls 125 (by omega) _).mono ?_; rintro e w5 ⟨rfl, rfl⟩; rw [show mkI 125 = 1 from rfl])
    refine bodyPost_ret (v := .tuple #[.agg #[.int .i64 4, .string ⟨#[]⟩, .int .i64 0], .int .i64 1]) ?_ rfl ⟨4, [], 1, rfl, (Below.refl _ _).alloc (Nat.le_refl _) _, .inr ⟨HF.out, by omega⟩⟩
    simp [results, Tryz.results80, go_sem, *]
  · have HF := Lib.hid (show first s.data.toList = some (5, [], 1) by rw [HD.out]; exact first_semi (by omega) _)
    subst hc
    go_enter Tryz.func80, Tryz.ntmps80
    go_wp2_with (go_at_call 109; refine (marks_calls 59 (by omega) _).mono ?_; rintro e w5 ⟨rfl, rfl⟩; rw [show mkI 59 = 2 from rfl])
    refine bodyPost_ret (v := .tuple #[.agg #[.int .i64 5, .string ⟨#[]⟩, .int .i64 0], .int .i64 1]) ?_ rfl ⟨5, [], 1, rfl, (Below.refl _ _).alloc (Nat.le_refl _) _, .inr ⟨HF.out, by omega⟩⟩
    simp [results, Tryz.results80, go_sem, *]
  · have HF := Lib.hid (show first s.data.toList = (unq false (s.data.toList.drop 1)).map fun x => (2, x.1, x.2 + 1) by rw [HD.out]; exact first_quote (by omega) _)
    have HB := Lib.hid ((Below.refl w.heap.size w).alloc (Nat.le_refl _) (.cells #[.int .i64 0, .string ⟨#[]⟩, .int .i64 0] 151 (0, 0)))
    have HX := Lib.hid (at_new w (.cells #[.int .i64 0, .string ⟨#[]⟩, .int .i64 0] 151 (0, 0)))
    subst hc
    go_enter Tryz.func80, Tryz.ntmps80
    go_wp2_with (first
      | (go_at_call 109; refine (marks_calls 34 (by omega) _).mono ?_; rintro e w5 ⟨rfl, rfl⟩; rw [show mkI 34 = -1 from rfl])
      | (go_at_call 110; refine (HU.out _).mono ?_; rintro e w5 ⟨t, m, rfl, hb, hx⟩; have hr := (hb.block w.heap.size (by simp)).trans HX.out; obtain ⟨c0, c1, c2, f0, f1, f2⟩ := row3 hr; have HB5 := Lib.hid (HB.out.trans (hb.mono HB.out.size)); have HX5 := Lib.hid hx; have HR := Lib.hid hr; clear hb hx hr))
    refine bodyPost_ret (v := .tuple #[.agg #[.int .i64 2, .string ⟨t.toArray⟩, .int .i64 0], .int .i64 m]) ?_ rfl ⟨2, t, m, rfl, ((HB5.out.setCell (p := ⟨_, _, _⟩) (Nat.le_refl _) _).setCell (p := ⟨_, _, _⟩) (Nat.le_refl _) _).setCell (p := ⟨_, _, _⟩) (Nat.le_refl _) _, ?_⟩
    · simp [results, Tryz.results80, go_sem, *]
    · rcases HX5.out with ⟨h1, h2⟩ | ⟨m', h1, h2⟩
      · exact .inl ⟨by rw [HF.out, h1]; rfl, h2⟩
      · exact .inr ⟨by rw [HF.out, h1, h2]; rfl, by omega⟩
  · have HM : mkI n = -1 := by rw [mkI, if_neg hc.1, if_neg hc.2.1, if_neg hc.2.2.1]
    have b34 : ((n : Int) == 34) = false := by simp; omega
    obtain ⟨k, hk⟩ : ∃ k, wlen s.data.toList = k := ⟨_, rfl⟩
    rw [hk] at HS
    have hkl : k ≤ s.size := by rw [← hk]; exact Nat.le_trans (wlen_le _) (Nat.le_of_eq (list_size s))
    obtain ⟨p, hps, hpl, hpw⟩ := to_of s k hkl
    have HP := Lib.hid (show p = ⟨(s.data.toList.take k).toArray⟩ by rw [← hpl])
    have HF := Lib.hid (show first s.data.toList = none ∧ k = 0 ∨ first s.data.toList = some (1, s.data.toList.take k, k) ∧ 0 < k by
      cases hw : wb n
      · refine .inl ⟨by rw [HD.out]; exact first_none (by omega) (by omega) (by omega) (by omega) (by rw [HN.out]; exact hw) _, ?_⟩
        rw [← hk, HD.out, wlen_no (by rw [HN.out]; exact hw)]
      · refine .inr ⟨?_, ?_⟩
        · rw [← hk]
          have := first_word (c := s[0]) (by rw [HN.out]; exact hw) (s.data.toList.drop 1)
          rwa [← HD.out] at this
        · rw [← hk, HD.out, wlen_yes (by rw [HN.out]; exact hw)]; omega)
    have HB := Lib.hid ((Below.refl w.heap.size w).alloc (Nat.le_refl _) (.cells #[.int .i64 0, .string ⟨#[]⟩, .int .i64 0] 151 (0, 0)))
    have HX := Lib.hid (at_new w (.cells #[.int .i64 0, .string ⟨#[]⟩, .int .i64 0] 151 (0, 0)))
    clear hk hpl hc
    go_enter Tryz.func80, Tryz.ntmps80
    go_wp2_with (first
      | (go_at_call 109; refine (marks_calls n (by omega) _).mono ?_; rintro e w5 ⟨rfl, rfl⟩; rw [HM])
      | (go_at_call 111; refine (HS.out _).mono ?_; rintro e w5 ⟨rfl, hb⟩; have hr := (hb.block w.heap.size (by simp)).trans HX.out; obtain ⟨c0, c1, c2, f0, f1, f2⟩ := row3 hr; have HB5 := Lib.hid (HB.out.trans (hb.mono HB.out.size)); have HR := Lib.hid hr; clear hb hr))
    refine bodyPost_ret (v := .tuple #[.agg #[.int .i64 1, .string p, .int .i64 0], .int .i64 k]) ?_ rfl ⟨1, s.data.toList.take k, k, by rw [HP.out], ((HB5.out.setCell (p := ⟨_, _, _⟩) (Nat.le_refl _) _).setCell (p := ⟨_, _, _⟩) (Nat.le_refl _) _).setCell (p := ⟨_, _, _⟩) (Nat.le_refl _) _, HF.out⟩
    simp [results, Tryz.results80, go_sem, *]
end Go.Proofs.YtajfdachpdkbcaaGreatDoor.Lex
end

section
namespace Go.Proofs.YtajfdachpdkbcaaGreatDoor.Flt
open Go.RowKit Go.Proofs.YtajfdachpdkbcaaGreatDoor.Own

theorem Err.at_ {w : World} : ∀ {l : List Lay} {N : Nat} {v : Value} {c : Int}, Err w N v l c → ∀ x ∈ l, x.blk < N ∧ ∃ u, w.heap[x.blk]? = some (.cells #[.int .i64 x.line, .string ⟨x.what.toArray⟩, u] 99 (0, 0))
  | [], _, _, _, _ => fun x hx => absurd hx (by simp)
  | y :: r, _, _, _, ⟨_, h2, u, h3, h4⟩ => fun x hx => by
    rcases List.mem_cons.1 hx with rfl | hx
    · exact ⟨h2, u, h3⟩
    · obtain ⟨k1, k2⟩ := Err.at_ h4 x hx
      exact ⟨by omega, k2⟩
theorem ErrN.at_ {w : World} {l : List Lay} {N : Nat} {v : Value} {c : Int} (h : ErrN w N v l c) : ∀ x ∈ l, x.blk < N ∧ ∃ u, w.heap[x.blk]? = some (.cells #[.int .i64 x.line, .string ⟨x.what.toArray⟩, u] 99 (0, 0)) := by
  rcases h with ⟨_, rfl, _⟩ | h
  · intro x hx; exact absurd hx (by simp)
  · exact h.at_
theorem line_at {l : List Lay} {k : Nat} (h : k < l.length) : lineOf (l.drop k) = if 0 < l[k].line then l[k].line else lineOf (l.drop (k + 1)) := by
  rw [List.drop_eq_getElem_cons h, lineOf]

set_option maxRecDepth 100000 in
set_option maxHeartbeats 2000000 in
theorem line_calls (v : Value) (l : List Lay) (c : Int) (N : Nat) (w : World) (h : ErrN w N v l c) (hN : N ≤ w.heap.size) (hT : Tab w) (hl : l.length ≤ 1000000) :
    Calls Tryz.prog 17 #[v] w fun e w' => e = .returned (.int .i64 (lineOf l)) ∧ Below w.heap.size w w' := by
  have HE := Lib.hid h
  have HT := Lib.hid hT
  clear h hT
  go_enter Tryz.func17, Tryz.ntmps17
  go_wp2_with (go_at_call 43; refine (faults_calls _ l c N _ HE.out hN HT.out hl).mono ?_; rintro e w5 ⟨p, cc, rfl, hr, hb⟩)
  have HR := Lib.hid hr
  have HB := Lib.hid hb
  clear hr hb
  go_loop [8] (fun i => ∃ k : Nat, k ≤ l.length ∧ i = .int .i64 k ∧ lineOf l = lineOf (l.drop k)) (fun i => l.length - (intOf i).toNat)
  case atStart => exact ⟨0, by omega, rfl, rfl⟩
  case round =>
    obtain ⟨k, hk, rfl, hd⟩ := hrel
    by_cases hlt : k < l.length
    · have q1 : (k : Int) < (l.length : Int) := by omega
      rcases HR.out.cells with h0 | ⟨b, rfl, hbl, hc⟩
      · have := congrArg List.length h0; rw [pv_len, List.length_nil] at this; omega
      · have c0 := hc k (.pointer (some ⟨l[k].blk, 0, none⟩)) (by simp [pv, hlt])
        obtain ⟨hxb, u, hx⟩ := HE.out.at_ l[k] (List.getElem_mem hlt)
        have c1 := at_cell ((HB.out.block l[k].blk (Nat.lt_of_lt_of_le hxb hN)).trans hx) 0
        have hxl : l[k].blk < w5.heap.size := by have := HB.out.size; omega
        simp only [List.getElem?_toArray, List.getElem?_cons_zero] at c1
        have hs := line_at hlt
        obtain ⟨y, hy⟩ : ∃ y, l[k] = y := ⟨_, rfl⟩
        rw [hy] at c0 c1 hs hxl
        obtain ⟨yb, yl, yw⟩ := y
        simp only at c0 c1 hs hxl
        have HD := Lib.hid hd
        clear hd hc hx hy hxb
        by_cases hp : 0 < yl
        · rw [if_pos hp] at hs
          have HS := Lib.hid hs
          clear hs
          go_wp2_with fail
          go_ret
          exact ⟨by rw [HD.out, HS.out]; rfl, HB.out⟩
        · rw [if_neg hp] at hs
          have HS := Lib.hid hs
          clear hs
          have hp' : yl ≤ 0 := by omega
          clear hp
          go_wp2_with fail
          go_round
          case rel => exact ⟨k + 1, by omega, by go_num, by rw [HD.out, HS.out]⟩
          case measure => simp [intOf]; omega
    · obtain rfl : k = l.length := by omega
      have HD := Lib.hid hd
      clear hd
      go_wp2_with fail
      go_ret
      exact ⟨by rw [HD.out, List.drop_length]; rfl, HB.out⟩
end Go.Proofs.YtajfdachpdkbcaaGreatDoor.Flt
end

section
namespace Go.Proofs.YtajfdachpdkbcaaGreatDoor.Lex
open Go.RowKit Go.Proofs.YtajfdachpdkbcaaGreatDoor.Own

theorem skn_le (l : List UInt8) (b : Bool) : skn b l ≤ skip b l := by
  rw [skn_count]
  exact Nat.le_trans List.count_le_length (by rw [List.length_take]; omega)
def lenOf : Value → Nat
  | .string s => s.size
  | _ => 0
/-- pieces as cells -/
def pv (l : List Pc) : List Value := l.flatMap fun x => [.int .i64 x.kind, .string ⟨x.text.toArray⟩, .int .i64 x.line]
theorem pv_len (l : List Pc) : (pv l).length = l.length * 3 := by
  induction l with
  | nil => rfl
  | cons e r ih => simp [pv] at ih ⊢; omega
theorem pv_app (l m : List Pc) : pv (l ++ m) = pv l ++ pv m := by simp [pv]
theorem pv_get {l : List Pc} {i : Nat} (h : i < l.length) : (pv l)[i * 3]? = some (.int .i64 l[i].kind) ∧ (pv l)[i * 3 + 1]? = some (.string ⟨l[i].text.toArray⟩) ∧ (pv l)[i * 3 + 2]? = some (.int .i64 l[i].line) := by
  induction l generalizing i with
  | nil => simp at h
  | cons e r ih =>
    cases i with
    | zero => simp [pv]
    | succ i =>
      have := ih (i := i) (by simpa using h)
      simpa [pv, Nat.add_mul] using this
theorem own_form {w : World} {B e n size : Nat} {v : Value} {xs : List Value} (h : w.ownsRow B e size v n xs) : ∃ p c, v = .slice p n c := by
  rcases h.2 with ⟨rfl, h0⟩ | ⟨g, cap, cur, rfl, _⟩
  · exact ⟨none, 0, by rw [show n = 0 from h0]⟩
  · exact ⟨_, _, rfl⟩
theorem info_piece : (Tryz.prog.info? 151).map (fun i => (i.zero, i.size, i.bytes)) = some (some (.agg #[.int .i64 0, .string ⟨#[]⟩, .int .i64 0]), 3, 32) := by kernel_rfl
theorem count_calls (p : ByteArray) (n : Nat) (h : p.data.toList.count 10 = n) (w : World) : Calls Tryz.prog 79 #[.string p, .string ⟨#[10]⟩] w fun e w' => e = .returned (.int .i64 n) ∧ w' = w := by
  have := Tryz.strings_Count_one p 10 w
  rw [show Lib.countByte p.data.toList 10 = (n : Int) by rw [← h]; rfl] at this
  exact this

/-- what Read answers, in memory -/
structure ReadRes (r : Res) (w w' : World) (v u : Value) : Prop where
  own : w'.ownsRow w.heap.size 151 3 v r.pcs.length (pv r.pcs)
  below : Below w.heap.size w w'
  err : ∃ lay, Flt.ErrN w' w'.heap.size u lay r.code ∧ Flt.lineOf lay = r.line ∧ lay.length ≤ 1
  none : r.code = 0 → u = .nilIface
  some : r.code ≠ 0 → ∃ t x, u = .iface t x
def ReadPost (s : ByteArray) (w : World) (e : Ending) (w' : World) : Prop := ∃ v u, e = .returned (.tuple #[v, u]) ∧ ReadRes (total s.data.toList) w w' v u
theorem res_err {w W : World} (hb : Below w.heap.size w W) {c n : Int} (hc : c ≠ 0) (hn : 0 ≤ n) (g : Nat) (hg : g = W.heap.size) :
    ReadRes (.err c n) w (W.alloc (.cells #[.int .i64 n, .string ⟨#[]⟩, .iface 92 (.int .i64 c)] 99)) (.slice none 0 0) (.iface 97 (.pointer (some ⟨g, 0, none⟩))) := by
  subst hg
  exact ⟨World.ownsRow_nil _ _ _ _, hb.alloc hb.size _, ⟨[⟨W.heap.size, n, []⟩], .inr (by
      have := Flt.Err.wrap (w := W) (N := W.heap.size) (v := .iface 92 (.int .i64 c)) (l := []) (c := c) rfl (Nat.le_refl _) n ⟨#[]⟩
      rw [show (W.alloc (.cells #[.int .i64 n, .string ⟨#[]⟩, .iface 92 (.int .i64 c)] 99)).heap.size = W.heap.size + 1 by simp]
      exact this), by
      show (if 0 < n then n else 0) = n
      split <;> omega, Nat.le_refl _⟩, fun h => absurd h hc, fun _ => ⟨_, _, rfl⟩⟩
theorem res_ok {w W : World} (hb : Below w.heap.size w W) {acc : List Pc} {v : Value} (ho : W.ownsRow w.heap.size 151 3 v acc.length (pv acc)) : ReadRes (.ok acc) w W v .nilIface :=
  ⟨ho, hb, ⟨[], .inl ⟨rfl, rfl, rfl⟩, rfl, Nat.zero_le _⟩, fun _ => rfl, fun h => absurd rfl h⟩

/-- pieces found, and what is left to read -/
structure ReadAt (s : ByteArray) (w wr : World) (acc : List Pc) (rest : ByteArray) (line : Int) (v : Value) : Prop where
  own : wr.ownsRow w.heap.size 151 3 v acc.length (pv acc)
  below : Below w.heap.size w wr
  size : acc.length + rest.size ≤ s.size
  one : 1 ≤ line
  top : line + rest.size ≤ 1 + s.size
  left : ∃ f, rest.size < f ∧ read f acc (rest.data.toList.drop (skip false rest.data.toList)) (line + skn false rest.data.toList) = total s.data.toList
theorem ReadAt.step {s : ByteArray} {w wr w5 w1 : World} {acc : List Pc} {rest r : ByteArray} {line : Int} {v v' : Value} (h : ReadAt s w wr acc rest line v) {a m n : Nat} (ha : skip false rest.data.toList = a) (hm : skn false rest.data.toList = m) (hal : acc.length ≠ 8192)
    {k : Int} {t : List UInt8} (hf : first (rest.data.toList.drop a) = Option.some (k, t, n)) (hr : r.data.toList = (rest.data.toList.drop a).drop n) (hb : Below wr.heap.size wr w5)
    (ho : w1.ownsRow w.heap.size 151 3 v' (acc.length + 1) (pv acc ++ [.int .i64 k, .string ⟨t.toArray⟩, .int .i64 (line + m)])) (hg : w5.grownBy w1 v.ownBlock) :
    ReadAt s w w1 (acc ++ [⟨k, t, line + m⟩]) r (line + m) v' ∧ r.size < rest.size := by
  have hs := h.below.size
  have hs5 := hb.size
  have hfl := first_le hf
  have hsz := h.size
  have htop := h.top
  have hone := h.one
  have hma : m ≤ a := by rw [← hm, ← ha]; exact skn_le _ _
  have hrs : r.size = rest.size - a - n := by
    have := congrArg List.length hr
    rw [list_size, List.length_drop, List.length_drop, list_size] at this
    exact this
  have hfl2 := hfl.2
  rw [List.length_drop, list_size] at hfl2
  refine ⟨⟨?_, ?_, ?_, ?_, ?_, ?_⟩, by omega⟩
  · rw [List.length_append, pv_app]; exact ho
  · exact (h.below.trans (hb.mono hs)).grown hg (by omega) (fun k hk => (World.ownsRow.lt h.own k hk).1)
  · rw [List.length_append, List.length_singleton]; omega
  · omega
  · omega
  · obtain ⟨f, hf1, hf2⟩ := h.left
    obtain ⟨f', rfl⟩ : ∃ f', f = f' + 1 := ⟨f - 1, by omega⟩
    refine ⟨f', by omega, ?_⟩
    rw [← hf2, ha, hm, read_some f' (by intro e; rw [e] at hf; cases hf) hal hf, hr]

set_option maxRecDepth 100000 in
set_option maxHeartbeats 4000000 in
theorem read_calls (s : ByteArray) (w : World) :
    Calls Tryz.prog 44 #[.string s] w (ReadPost s w) := by
  obtain ⟨i0, hi, hz0, hz1, hz2⟩ := info_parts info_piece
  by_cases hbig : 65536 < s.size
  · have HT := Lib.hid (total_big (l := s.data.toList) hbig)
    have q1 : (65536 : Int) < (s.size : Int) := by omega
    clear hbig
    go_enter Tryz.func44, Tryz.ntmps44
    go_wp2_with (go_at_call 77; refine (Flt.new_some 5 0 ⟨#[]⟩ (by decide) _).mono ?_; rintro e w5 ⟨rfl, rfl⟩)
    go_ret2
    exact ⟨_, _, rfl, by rw [HT.out]; exact res_err (c := 5) (n := 0) (Below.refl _ _) (by decide) (by decide) _ rfl⟩
  · have HT := Lib.hid (total_fit (l := s.data.toList) hbig)
    have hs : s.size ≤ 65536 := by omega
    have q1 : ¬ (65536 : Int) < (s.size : Int) := by omega
    clear hbig
    go_enter Tryz.func44, Tryz.ntmps44
    go_wp2_with fail
    go_loopw [0, 4, 5] (fun sv v lv wr => ∃ (acc : List Pc) (rest : ByteArray) (line : Int), sv = .string rest ∧ lv = .int .i64 line ∧ ReadAt s w wr acc rest line v) (fun sv _ _ _ => lenOf sv)
    case atStart => exact ⟨[], s, 1, rfl, rfl, World.ownsRow_nil _ _ _ _, Below.refl _ _, by simp, by omega, by omega, ⟨s.size + 1, by omega, by rw [HT.out]; rfl⟩⟩
    case round =>
      obtain ⟨acc, rest, line, rfl, rfl, C⟩ := hrel
      rename World => wr
      have hown := C.own
      have hsz := C.size
      have hone := C.one
      have htop := C.top
      have hbs := C.below.size
      have HC := Lib.hid C
      clear C
      obtain ⟨a, ha⟩ : ∃ a, skip false rest.data.toList = a := ⟨_, rfl⟩
      obtain ⟨m, hm⟩ : ∃ m, skn false rest.data.toList = m := ⟨_, rfl⟩
      have hal : a ≤ rest.size := by rw [← ha]; exact Nat.le_trans (skip_le _ _) (Nat.le_of_eq (list_size rest))
      have hma : m ≤ a := by rw [← hm, ← ha]; exact skn_le _ _
      obtain ⟨p, hps, hpl, hpw⟩ := to_of rest a hal
      obtain ⟨q, hqs, hql, hqw⟩ := from_of rest a hal
      have HBt := Lib.hid (between_calls rest)
      rw [ha] at HBt
      have HCt := Lib.hid (count_calls p m (by rw [hpl, ← hm, skn_count, ha]))
      have HA := Lib.hid ha
      have HM := Lib.hid hm
      have HQ := Lib.hid hql
      have HO := Lib.hid hown
      obtain ⟨vp, vc, rfl⟩ := own_form hown
      have k1 : line + m ≤ 65537 := by omega
      clear ha hm hpl hql hown
      by_cases hq0 : q.size = 0
      · obtain rfl := empty_of hq0
        have HTT := Lib.hid (show total s.data.toList = .ok acc by
          obtain ⟨f, hf1, hf2⟩ := HC.out.left
          obtain ⟨f', rfl⟩ : ∃ f', f = f' + 1 := ⟨f - 1, by omega⟩
          rw [← hf2, HA.out, ← HQ.out]; exact read_nil _ _ _)
        go_wp2_with (first
          | (go_at_call 78; refine (HBt.out _).mono ?_; rintro e w5 ⟨rfl, hb⟩; have HB5 := Lib.hid hb; clear hb)
          | (go_at_call 79; refine (HCt.out _).mono ?_; rintro e w6 ⟨rfl, rfl⟩))
        go_ret2
        exact ⟨_, _, rfl, by rw [HTT.out]; exact res_ok (HC.out.below.trans (HB5.out.mono HC.out.below.size)) (Own.own_below HO.out HB5.out)⟩
      · have hne : q.toList.isEmpty = false := by
          rw [ByteArray.toList_eq]
          cases h : q.data.toList with
          | nil => exact absurd h (full_of hq0)
          | cons a r => rfl
        have hne2 : (q.toList == []) = false := by
          cases h : q.toList with
          | nil => rw [h] at hne; cases hne
          | cons a r => rfl
        have HNE := Lib.hid (full_of hq0)
        by_cases h8 : acc.length = 8192
        · have b8 : ((acc.length : Int) == 8192) = true := by simp [h8]
          have HTT := Lib.hid (show total s.data.toList = .err 15 (line + m) by
            obtain ⟨f, hf1, hf2⟩ := HC.out.left
            obtain ⟨f', rfl⟩ : ∃ f', f = f' + 1 := ⟨f - 1, by omega⟩
            rw [← hf2, HA.out, HM.out, ← HQ.out]; exact read_many _ HNE.out h8 _)
          clear h8
          go_wp2_with (first
            | (go_at_call 78; refine (HBt.out _).mono ?_; rintro e w5 ⟨rfl, hb⟩; have HB5 := Lib.hid hb; clear hb)
            | (go_at_call 79; refine (HCt.out _).mono ?_; rintro e w6 ⟨rfl, rfl⟩)
            | (go_at_call 77; refine (Flt.new_some 15 _ ⟨#[]⟩ (by decide) _).mono ?_; rintro e w5 ⟨rfl, rfl⟩))
          go_ret2
          exact ⟨_, _, rfl, by rw [HTT.out]; exact res_err (c := 15) (n := line + m) (HC.out.below.trans (HB5.out.mono HC.out.below.size)) (by decide) (by omega) _ rfl⟩
        · have b8 : ((acc.length : Int) == 8192) = false := by simp; omega
          have HFC := Lib.hid (first_calls q (by omega) (by omega))
          have H8 := Lib.hid h8
          clear h8
          go_wp2_with (first
            | (go_at_call 78; refine (HBt.out _).mono ?_; rintro e w5 ⟨rfl, hb⟩; have HB5 := Lib.hid hb; have h5 := hb.size; have ho5 := Own.own_below HO.out hb; clear hb)
            | (go_at_call 79; refine (HCt.out _).mono ?_; rintro e w6 ⟨rfl, rfl⟩))
          refine (HFC.out _).mono ?_
          rintro e w7 ⟨k, t, n, rfl, hb7, hx⟩
          have HB7 := Lib.hid (HB5.out.trans (hb7.mono h5))
          have h7 := HB7.out.size
          have ho7 := Own.own_below ho5 hb7
          clear hb7 ho5
          rcases hx with ⟨hf, hn⟩ | ⟨hf, hn⟩
          · subst hn
            have HTT := Lib.hid (show total s.data.toList = .err 3 (line + m) by
              obtain ⟨f, hf1, hf2⟩ := HC.out.left
              obtain ⟨f', rfl⟩ : ∃ f', f = f' + 1 := ⟨f - 1, by omega⟩
              rw [← hf2, HA.out, HM.out, ← HQ.out]; exact read_bad _ HNE.out H8.out hf _)
            clear hf
            go_wp2_with (go_at_call 77; refine (Flt.new_some 3 _ ⟨#[]⟩ (by decide) _).mono ?_; rintro e w5 ⟨rfl, rfl⟩)
            go_ret2
            exact ⟨_, _, rfl, by rw [HTT.out]; exact res_err (c := 3) (n := line + m) ((HC.out.below.trans (HB7.out.mono HC.out.below.size)).alloc (by omega) _) (by decide) (by omega) _ (by simp)⟩
          · have hfl := (first_le hf).2
            rw [list_size] at hfl
            obtain ⟨r, hrs, hrl, hrw⟩ := from_of q n hfl
            have bn : ((n : Int) == 0) = false := by simp; omega
            have HF := Lib.hid (show first (rest.data.toList.drop a) = some (k, t, n) by rw [← HQ.out]; exact hf)
            have HR := Lib.hid (show r.data.toList = (rest.data.toList.drop a).drop n by rw [← HQ.out]; exact hrl)
            clear hf hrl
            go_wp2_with (at_builtin; refine Own.append_any rfl (.tmp 43) (.tmp 45) 100 rfl w.heap.size 151 i0 _ 3 32 Tryz.underlying100 hi hz0 hz1 hz2 rfl (by decide) _ _ _ rfl (World.ownsRow.alloc (World.ownsRow.alloc ho7 _) _) _ 1 1 [.int .i64 k, .string ⟨t.toArray⟩, .int .i64 (line + m)] rfl (fun h => nomatch h) rfl (Own.three_new _ _ _ _ _ _ (by simp)) (by simp [Value.oneCell']) (by unfold maxLen; omega) (by omega) (by simp; omega) ?_; intro v' w1 hown1 hgrow1; have C1 := Lib.hid (HC.out.step HA.out HM.out H8.out HF.out HR.out ((HB7.out.alloc h7 _).alloc (by simp; omega) _) hown1 hgrow1); clear hown1 hgrow1 ho7)
            go_roundw
            case rel => exact ⟨_, r, _, rfl, rfl, C1.out.1⟩
            case measure => exact C1.out.2
end Go.Proofs.YtajfdachpdkbcaaGreatDoor.Lex
end

section
namespace Go.Proofs.YtajfdachpdkbcaaGreatDoor.Lex
open Go.RowKit Go.Proofs.YtajfdachpdkbcaaGreatDoor.Own

theorem own_pcs {w : World} {B : Nat} {e : TypeId} {v : Value} {n : Nat} {xs : List Pc} (h : w.ownsRow B e 3 v n (pv xs)) (hn : n = xs.length) : ∃ p c, v = .slice p n c ∧ Pcs w xs p c := by
  have hc := @World.ownsRow.cells _ _ _ _ _ _ _ h
  rcases h.2 with ⟨rfl, h0⟩ | ⟨g, cap, cur, rfl, _, hh, h3, h4, _⟩
  · obtain rfl : n = 0 := h0
    exact ⟨none, 0, rfl, by omega, by unfold maxLen; omega, .inl (List.eq_nil_of_length_eq_zero hn.symm)⟩
  · refine ⟨_, cap, rfl, by omega, h4, .inr ⟨g, rfl, at_lt hh, fun i hi => ?_⟩⟩
    obtain ⟨e0, e1, e2⟩ := pv_get hi
    have a0 := hc (g := g) rfl (i * 3) _ e0
    have a1 := hc (g := g) rfl (i * 3 + 1) _ e1
    have a2 := hc (g := g) rfl (i * 3 + 2) _ e2
    rw [add0] at a0 a1 a2
    exact ⟨a0, a1, a2⟩
end Go.Proofs.YtajfdachpdkbcaaGreatDoor.Lex
end

section
namespace Go.Proofs.YtajfdachpdkbcaaGreatDoor.Tree
open Go.RowKit Go.Stop Go.Proofs.YtajfdachpdkbcaaGreatDoor.Own Go.Proofs.YtajfdachpdkbcaaGreatDoor.Rw Go.Proofs.YtajfdachpdkbcaaGreatDoor.Lex

theorem read_code : ∀ (f : Nat) (acc : List Pc) (l : List UInt8) (line : Int), l.length < f → ∀ c n, read f acc l line = .err c n → c ≠ 0
  | 0, _, _, _, h, _, _, _ => by omega
  | f + 1, acc, l, line, h, c, n, e => by
    by_cases hl : l = []
    · subst hl; rw [read_nil] at e; cases e
    · by_cases h8 : acc.length = 8192
      · rw [read_many _ hl h8] at e; cases e; decide
      · cases e1 : first l with
        | none => rw [read_bad _ hl h8 e1] at e; cases e; decide
        | some x =>
          obtain ⟨k, t, m⟩ := x
          have := first_le e1
          rw [read_some _ hl h8 e1] at e
          exact read_code f _ _ _ (by rw [List.length_drop, List.length_drop]; omega) c n e
theorem total_code {l : List UInt8} {c n : Int} (h : total l = .err c n) : c ≠ 0 := by
  by_cases hb : 65536 < l.length
  · rw [total_big hb] at h; cases h; decide
  · rw [total_fit hb] at h
    exact read_code _ _ _ _ (by rw [List.length_drop]; omega) c n h
theorem read_few : ∀ (f : Nat) (acc : List Pc) (l : List UInt8) (line : Int), acc.length ≤ 8192 → ∀ P, read f acc l line = .ok P → P.length ≤ 8192
  | 0, _, _, _, _, _, e => by cases e
  | f + 1, acc, l, line, h, P, e => by
    by_cases hl : l = []
    · subst hl; rw [read_nil] at e; cases e; exact h
    · by_cases h8 : acc.length = 8192
      · rw [read_many _ hl h8] at e; cases e
      · cases e1 : first l with
        | none => rw [read_bad _ hl h8 e1] at e; cases e
        | some x =>
          obtain ⟨k, t, m⟩ := x
          rw [read_some _ hl h8 e1] at e
          exact read_few f _ _ _ (by rw [List.length_append, List.length_singleton]; omega) P e
theorem total_few {l : List UInt8} {P : List Pc} (h : total l = .ok P) : P.length ≤ 8192 := by
  by_cases hb : 65536 < l.length
  · rw [total_big hb] at h; cases h
  · rw [total_fit hb] at h
    exact read_few _ _ _ _ (by simp) P h
theorem argsOf_code (last : Int) : ∀ (r : List Pc) (al : List (List UInt8)) (c n : Int), argsOf last al r = .bad c n → c ≠ 0
  | [], _, c, n, h => by cases h; decide
  | p :: r, al, c, n, h => by
    rw [argsOf] at h
    by_cases h1 : p.kind = 1 ∨ p.kind = 2
    · rw [if_pos h1] at h
      by_cases h2 : al.length = 16
      · rw [if_pos h2] at h; cases h; decide
      · rw [if_neg h2] at h; exact argsOf_code last r _ c n h
    · rw [if_neg h1] at h
      by_cases h3 : p.kind = 3
      · rw [if_pos h3] at h; cases h
      · rw [if_neg h3] at h
        by_cases h5 : p.kind = 5
        · rw [if_pos h5] at h; cases h
        · rw [if_neg h5] at h; cases h; decide
theorem stm_code (last : Int) {B : Nat → List Pc → Rs (List Nd)} (hB : ∀ d r c n, B d r = .bad c n → c ≠ 0) (d : Nat) (k : Pc) (r : List Pc) (c n : Int) (h : stm last B d k r = .bad c n) : c ≠ 0 := by
  unfold stm at h
  by_cases h1 : k.kind = 1
  · rw [if_pos h1] at h
    have ha := argsOf_code last r []
    generalize argsOf last [] r = A at h ha
    cases A with
    | bad c' n' => cases h; exact ha _ _ rfl
    | ok a r1 =>
      obtain ⟨al, o⟩ := a
      cases o with
      | none => cases h
      | some l =>
        by_cases h4 : d = 4
        · have h : (if d = 4 then Rs.bad 15 l else _) = _ := h
          rw [if_pos h4] at h; cases h; decide
        · have h : (if d = 4 then _ else (match B (d + 1) r1 with | .bad c l => Rs.bad c l | .ok ns r2 => Rs.ok (Nd.mk k.text al true ns k.line) r2)) = _ := h
          rw [if_neg h4] at h
          have hb := hB (d + 1) r1
          generalize B (d + 1) r1 = b at h hb
          cases b with
          | bad c' n' => cases h; exact hb _ _ rfl
          | ok ns r2 => cases h
  · rw [if_neg h1] at h; cases h; decide
theorem blk_code (last : Int) : ∀ (f d : Nat) (acc : List Nd) (r : List Pc) (c n : Int), blk last f d acc r = .bad c n → c ≠ 0
  | 0, _, _, _, _, _, h => by cases h; decide
  | f + 1, d, acc, [], c, n, h => by cases h; decide
  | f + 1, d, acc, p :: r, c, n, h => by
    by_cases h4 : p.kind = 4
    · rw [blk_close _ _ _ _ h4] at h; cases h
    · cases e : stm last (fun d r => blk last f d [] r) d p r with
      | bad c' n' => rw [blk_bad _ _ _ _ h4 e] at h; cases h; exact stm_code last (fun d r c n h => blk_code last f d [] r c n h) d p r _ _ e
      | ok x r1 => rw [blk_ok _ _ _ _ h4 e] at h; exact blk_code last f d _ r1 c n h
theorem alls_code (last : Int) : ∀ (f : Nat) (acc : List Nd) (r : List Pc) (c n : Int), alls last f acc r = .bad c n → c ≠ 0
  | 0, _, _, _, _, h => by cases h; decide
  | f + 1, acc, [], c, n, h => by cases h
  | f + 1, acc, p :: r, c, n, h => by
    cases e : stm last (fun d r => blk last f d [] r) 0 p r with
    | bad c' n' => rw [alls_bad _ _ _ e] at h; cases h; exact stm_code last (fun d r c n h => blk_code last f d [] r c n h) 0 p r _ _ e
    | ok x r1 => rw [alls_ok _ _ _ e] at h; exact alls_code last f _ r1 c n h

/-- what Read answers, in memory -/
structure TrRes (t : Tr) (w w' : World) (v u : Value) : Prop where
  fo : Fo w.heap.size w' v t.nds
  below : Below w.heap.size w w'
  err : ∃ lay, Flt.ErrN w' w'.heap.size u lay t.code ∧ Flt.lineOf lay = (if 0 < t.line then t.line else 0) ∧ lay.length ≤ 1
  none : t.code = 0 → u = .nilIface
  some : t.code ≠ 0 → ∃ t x, u = .iface t x
theorem line_pos : ∀ (l : List Flt.Lay), 0 ≤ Flt.lineOf l
  | [] => by rw [Flt.lineOf_nil]; decide
  | x :: r => by
    by_cases h : 0 < x.line
    · rw [Flt.lineOf_some h]; omega
    · rw [Flt.lineOf_none h]; exact line_pos r
theorem err_apart {w w' : World} {b : Nat} {cs : Array Value} {T : TypeId} {fr : Nat × Nat} (hb : w.heap[b]? = Option.some (.cells cs T fr)) (hT : T ≠ 99) (ho : Out (fun i => i = b) w w') :
    ∀ {l : List Flt.Lay} {N : Nat} {v : Value} {c : Int}, Flt.Err w N v l c → Flt.Err w' N v l c
  | [], _, _, _, h => h
  | x :: r, _, _, _, ⟨h1, h2, u, h3, h4⟩ => ⟨h1, h2, u, ho.at_ h3 (fun e => by rw [e, hb] at h3; simp at h3; exact hT h3.2.1), err_apart hb hT ho h4⟩
theorem errN_apart {w w' : World} {b : Nat} {cs : Array Value} {T : TypeId} {fr : Nat × Nat} (hb : w.heap[b]? = Option.some (.cells cs T fr)) (hT : T ≠ 99) (ho : Out (fun i => i = b) w w')
    {l : List Flt.Lay} {N : Nat} {v : Value} {c : Int} (h : Flt.ErrN w N v l c) : Flt.ErrN w' N v l c := h.imp id (err_apart hb hT ho)

set_option maxRecDepth 100000 in
set_option maxHeartbeats 4000000 in
theorem read_calls (s : ByteArray) (w : World) :
    Calls Tryz.prog 19 #[.string s] w fun e w' => ∃ v u, e = .returned (.tuple #[v, u]) ∧ TrRes (readT s.data.toList) w w' v u := by
  have hmf : ∀ (fn : Fn) (first cap : Array Value) (w : World), (Instr.makeFunc fn first cap).run Tryz.prog w = .ok (.func fn first cap) w := fun _ _ _ _ => rfl
  have HR := Lib.hid (Lex.read_calls s)
  unfold ReadPost at HR
  go_enter_defers Tryz.func19, Tryz.ntmps19
  go_wp2_with fail
  refine (HR.out _).mono ?_
  rintro e w1 ⟨v, u, rfl, h1⟩
  have eb : w1.heap[w.heap.size]? = Option.some (.cells #[.nilIface] 31 (0, 0)) := (h1.below.block _ (by simp)).trans (at_new w _)
  have e0 : w1.cell? ⟨w.heap.size, 0, Option.none⟩ = Option.some .nilIface := at_cell eb 0
  have f0 : w1.frozen? ⟨w.heap.size, 0, Option.none⟩ = false := at_frozen eb 0
  have lt1 := at_lt eb
  cases ht : total s.data.toList with
  | err c n =>
    rw [ht] at h1
    have hc := total_code ht
    obtain ⟨T, x, rfl⟩ := h1.some hc
    have HT := Lib.hid (show readT s.data.toList = .err c n by unfold readT; rw [ht])
    have H1 := Lib.hid h1
    have EB := Lib.hid eb
    clear h1 ht
    go_wp2_with fail
    go_region
    go_wp2_with fail
    have E2 := at_set (at_set EB.out 0 (.iface T x)) 0 (.iface T x)
    have e2 : ((w1.setCell ⟨w.heap.size, 0, Option.none⟩ (.iface T x)).setCell ⟨w.heap.size, 0, Option.none⟩ (.iface T x)).drew.cell? ⟨w.heap.size, 0, Option.none⟩ = Option.some (.iface T x) := at_cell E2 0
    have S2 : Out (fun i => i = w.heap.size) w1 ((w1.setCell ⟨w.heap.size, 0, Option.none⟩ (.iface T x)).setCell ⟨w.heap.size, 0, Option.none⟩ (.iface T x)).drew := (((Out.refl (fun i => i = w.heap.size) w1).setCell (p := ⟨w.heap.size, 0, Option.none⟩) (fun _ => rfl) _).setCell (p := ⟨w.heap.size, 0, Option.none⟩) (fun _ => rfl) _).drew
    generalize ((w1.setCell ⟨w.heap.size, 0, Option.none⟩ (.iface T x)).setCell ⟨w.heap.size, 0, Option.none⟩ (.iface T x)).drew = w3 at *
    simp [bodyPostD, Leaves, results, Tryz.results19, go_sem, e2]
    refine ⟨_, _, ⟨rfl, rfl⟩, ?_⟩
    rw [HT.out]
    obtain ⟨lay, hE, hl, hl1⟩ := H1.out.err
    refine ⟨Fo.nil _ _, ?_, ⟨lay, ?_, ?_, hl1⟩, fun h => absurd h hc, fun _ => ⟨_, _, rfl⟩⟩
    · exact (((Below.refl _ _).alloc (Nat.le_refl _) _).trans (H1.out.below.mono (by simp))).trans (S2.below (B := w.heap.size) (by omega) fun i e => by omega)
    · exact (errN_apart EB.out (by decide) S2 hE).imp id fun h => h.more S2.size
    · have := line_pos lay
      show _ = if 0 < n then n else 0
      rw [hl] at this ⊢
      have h0 : 0 ≤ n := this
      show n = _
      split <;> omega
  | ok P =>
    rw [ht] at h1
    obtain rfl := h1.none rfl
    have HF := Lib.hid (total_few ht)
    have HT := Lib.hid (show readT s.data.toList = (match treeOf P with | .bad c n => .err c n | .ok l _ => .ok l) by unfold readT; rw [ht]; rfl)
    have HB := Lib.hid h1.below
    obtain ⟨p, c, rfl, hp⟩ := own_pcs (n := P.length) h1.own rfl
    have HP := Lib.hid (show Pcs w1 P p c from hp)
    have EB := Lib.hid eb
    have HPB := Lib.hid (show ∀ a, p = Option.some a → w.heap.size < a.block ∧ a.block < w1.heap.size by
      rintro a rfl
      have := World.ownsRow.lt h1.own a.block rfl
      rw [show (w.alloc (.cells #[.nilIface] 31)).heap.size = w.heap.size + 1 by simp] at this
      exact ⟨by omega, this.2⟩)
    clear h1 hp ht
    go_wp2_with fail
    have S1 := (Out.refl (fun i => i = w.heap.size) w1).setCell (p := ⟨w.heap.size, 0, Option.none⟩) (fun _ => rfl) .nilIface
    have s1 := S1.size
    have E1 := at_set EB.out 0 .nilIface
    have B1 : Below w.heap.size w (w1.setCell ⟨w.heap.size, 0, Option.none⟩ .nilIface) := ((Below.refl _ _).alloc (Nat.le_refl _) _ |>.trans (HB.out.mono (by simp))).setCell (p := ⟨w.heap.size, 0, Option.none⟩) (Nat.le_refl _) _
    have P1 := HP.out.out S1 fun a e => by have := (HPB.out a e).1; omega
    have z1 : (w1.setCell ⟨w.heap.size, 0, Option.none⟩ .nilIface).heap.size = w1.heap.size := by simp [World.setCell]
    generalize w1.setCell ⟨w.heap.size, 0, Option.none⟩ .nilIface = w2 at *
    have R2 : Rd (w2.alloc (.cells #[.slice p P.length c, .int .i64 0] 106)) P p c w1.heap.size 0 :=
      ⟨at_newk _ _ z1.symm, P1.kept ((Below.refl _ _).alloc (Nat.le_refl _) _), fun a e => by have := (HPB.out a e).2; omega, Nat.zero_le _, by have := HF.out; omega⟩
    refine (all_calls P p c w1.heap.size _ R2 fun a e => by have := (HPB.out a e).2; simp; omega).mono ?_
    intro e w5 hPost
    have HT' := HT.out
    generalize hr0 : treeOf P = r at hPost HT' 
    have E2 := at_old w2 (.cells #[.slice p P.length c, .int .i64 0] 106) E1
    cases hPost with
    | @bad cd n hG =>
      obtain ⟨g, rfl, hf, ho⟩ := hG
      have E5 := ho.at_ E2 (by show ¬ _ = w1.heap.size; omega)
      refine leaves_cons (f := 45) (args := #[.pointer (Option.some ⟨w.heap.size, 0, Option.none⟩)]) (by simp) (by simp [go_sem]) ?_
      refine (catch_panicking ⟨w.heap.size, 0, Option.none⟩ .nilIface _ [] _ (at_cell E5 0) (at_frozen E5 0)).mono ?_
      rintro e u' w'' ⟨rfl, rfl, rfl⟩
      have E6 := at_set E5 0 (.iface 97 (.pointer (Option.some ⟨g, 0, Option.none⟩)))
      have e6 : (w5.setCell ⟨w.heap.size, 0, Option.none⟩ (.iface 97 (.pointer (Option.some ⟨g, 0, Option.none⟩)))).cell? ⟨w.heap.size, 0, Option.none⟩ = Option.some (.iface 97 (.pointer (Option.some ⟨g, 0, Option.none⟩))) := at_cell E6 0
      have S6 := (Out.refl (fun i => i = w.heap.size) w5).setCell (p := ⟨w.heap.size, 0, Option.none⟩) (fun _ => rfl) (.iface 97 (.pointer (Option.some ⟨g, 0, Option.none⟩)))
      generalize w5.setCell ⟨w.heap.size, 0, Option.none⟩ (.iface 97 (.pointer (Option.some ⟨g, 0, Option.none⟩))) = w6 at *
      simp [Leaves, settle, results, Tryz.results19, go_sem, e6]
      refine ⟨_, _, ⟨rfl, rfl⟩, ?_⟩
      have HT2 : readT s.data.toList = .err cd n := HT'
      rw [HT2]
      have hc : cd ≠ 0 := alls_code _ _ _ _ _ _ hr0
      have f6 : faultAt w6 g cd n := S6.at_ hf fun e => by
        subst e
        unfold faultAt at hf
        rw [E5] at hf
        simp at hf
      refine ⟨Fo.nil _ _, ?_, ⟨[⟨g, n, []⟩], .inr ⟨rfl, at_lt f6, _, f6, rfl⟩, ?_, Nat.le_refl _⟩, fun h => absurd h hc, fun _ => ⟨_, _, rfl⟩⟩
      · exact ((B1.alloc (by omega) _).trans (ho.below (B := w.heap.size) (by simp; omega) fun i e => by have e : i = w1.heap.size := e; omega)).trans (S6.below (B := w.heap.size) (by have := at_lt E5; omega) fun i e => by omega)
      · show (if 0 < n then n else 0) = _
        rfl
    | @ok ns k1 v1 he hF hr hk ho =>
      subst he
      have E5 := ho.at_ E2 (by show ¬ _ = w1.heap.size; omega)
      have e5 : w5.cell? ⟨w.heap.size, 0, Option.none⟩ = Option.some .nilIface := at_cell E5 0
      have f5 : w5.frozen? ⟨w.heap.size, 0, Option.none⟩ = false := at_frozen E5 0
      go_wp2_with fail
      have E6 := at_set E5 0 .nilIface
      have e6 : (w5.setCell ⟨w.heap.size, 0, Option.none⟩ .nilIface).cell? ⟨w.heap.size, 0, Option.none⟩ = Option.some .nilIface := at_cell E6 0
      have S6 := (Out.refl (fun i => i = w.heap.size) w5).setCell (p := ⟨w.heap.size, 0, Option.none⟩) (fun _ => rfl) .nilIface
      generalize w5.setCell ⟨w.heap.size, 0, Option.none⟩ .nilIface = w6 at *
      refine leaves_cons (f := 45) (args := #[.pointer (Option.some ⟨w.heap.size, 0, Option.none⟩)]) (by simp) (by simp [go_sem]) ?_
      refine (catch_idle ⟨w.heap.size, 0, Option.none⟩ _).mono ?_
      rintro e u' w'' ⟨rfl, rfl, rfl⟩
      simp [Leaves, settle, results, Tryz.results19, go_sem, e6]
      refine ⟨_, _, ⟨rfl, rfl⟩, ?_⟩
      have HT2 : readT s.data.toList = .ok ns := HT'
      rw [HT2]
      refine ⟨?_, ?_, ⟨[], .inl ⟨rfl, rfl, rfl⟩, rfl, Nat.zero_le _⟩, fun _ => rfl, fun h => absurd rfl h⟩
      · exact (hF.out S6 fun i e => by rw [show (w2.alloc _).heap.size = w2.heap.size + 1 by simp]; omega).base (by rw [show (w2.alloc _).heap.size = w2.heap.size + 1 by simp]; omega)
      · exact ((B1.alloc (by omega) _).trans (ho.below (B := w.heap.size) (by simp; omega) fun i e => by have e : i = w1.heap.size := e; omega)).trans (S6.below (B := w.heap.size) (by have := at_lt E5; omega) fun i e => by omega)
end Go.Proofs.YtajfdachpdkbcaaGreatDoor.Tree
end

section
namespace Go.Proofs.YtajfdachpdkbcaaGreatDoor.Conf
open Go.RowKit Go.Proofs.YtajfdachpdkbcaaGreatDoor.Own Go.Proofs.YtajfdachpdkbcaaGreatDoor.Rw Go.Proofs.YtajfdachpdkbcaaGreatDoor.Tree Go.Proofs.YtajfdachpdkbcaaGreatDoor.KM

/-- an error of Load -/
structure ErL (w : World) (v : Value) (c n : Int) : Prop where
  err : ∃ lay, Flt.ErrN w w.heap.size v lay c ∧ Flt.lineOf lay = (if 0 < n then n else 0) ∧ lay.length ≤ 1
  some : ∃ t x, v = .iface t x
inductive LdPost (w : World) : Rz Cf → Ending → World → Prop
  | bad {v : Value} {c n : Int} {w' : World} (he : ErL w' v c n) (hb : Below w.heap.size w w') : LdPost w (.bad c n) (.returned (.tuple #[confV (.slice none 0 0) (.slice none 0 0) (.slice none 0 0) (.slice none 0 0) [] [] [] [] [] [] [] [] [] [], v])) w'
  | ok {cf : Cf} {w' : World} {v0 v1 v2 v3 : Value} {b0 b1 b2 b3 b4 b5 b6 b7 b8 b9 : Bs} (hr : CfR w' v0 v1 v2 v3 cf) (ht : cf.brks = [b0, b1, b2, b3, b4, b5, b6, b7, b8, b9]) (hb : Below w.heap.size w w') :
      LdPost w (.ok cf) (.returned (.tuple #[confV v0 v1 v2 v3 b0 b1 b2 b3 b4 b5 b6 b7 b8 b9, .nilIface])) w'
theorem er_line {w : World} {v : Value} {c n : Int} (h : Er w v c n) : ErL w v c n := by
  obtain ⟨g, rfl, hf⟩ := h
  exact ⟨⟨[⟨g, n, []⟩], .inr ⟨rfl, at_lt hf, _, hf, rfl⟩, by show (if 0 < n then n else 0) = _; rfl, Nat.le_refl _⟩, _, _, rfl⟩
theorem total_le {l : List UInt8} {P : List Lex.Pc} (h : Lex.total l = .ok P) : l.length ≤ 65536 := by
  by_cases hl : 65536 < l.length
  · rw [Lex.total_big hl] at h; cases h
  · omega
theorem readT_le {s : Bs} {L : List Nd} (h : readT s = .ok L) : s.length ≤ 65536 := by
  unfold readT at h
  split at h
  · cases h
  · exact total_le (by assumption)
theorem load_ok {s : Bs} {L : List Nd} (h : readT s = .ok L) : loadT s = loadL L := by unfold loadT; rw [h]
structure LoAt (w1 wr : World) (lb mb : Nat) (L : List Nd) (r : Rz Cf) (k : Nat) (s : Sa) : Prop where
  lds : LdS w1.heap.size lb mb s.us s.cf wr
  below : Below w1.heap.size w1 wr
  good : OkS s
  left : (match foldM s (L.drop k) with | .bad c l => .bad c l | .ok s => .ok s.cf) = r
end Go.Proofs.YtajfdachpdkbcaaGreatDoor.Conf
end


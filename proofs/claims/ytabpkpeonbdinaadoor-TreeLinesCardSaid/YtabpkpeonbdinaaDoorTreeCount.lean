/-
  Layer 13 (tree): Count.
-/
import Derived.Test.YtabpkpeonbdinaaDoorTreeSame
namespace Go.Proofs.YtabpkpeonbdinaaDoor.Tree
open Go.RowKit Go.Proofs.YtabpkpeonbdinaaDoor.Own Go.Proofs.YtabpkpeonbdinaaDoor.Rw

def kidsL : List Nd → Nat
  | [] => 0
  | x :: xs => x.kids + kidsL xs
theorem cntL_kids : ∀ l : List Nd, cntL l = l.length + kidsL l
  | [] => by rw [cntL_nil]; rfl
  | x :: xs => by rw [cntL_cons, cntL_kids xs, List.length_cons, kidsL]; omega

set_option maxRecDepth 100000 in
set_option maxHeartbeats 4000000 in
theorem count_calls : ∀ (s : Nat) (a : List Nd) (p : Option Addr) (n c : Nat) (w : World), SizeOf.sizeOf a = s → n = a.length → cntL a ≤ 1099511627776 → Sl w (.slice p n c) a →
    Calls Tryd.prog 10 #[.slice p n c] w fun e w' => e = .returned (.int .i64 (cntL a)) ∧ Below w.heap.size w w' := by
  intro s
  induction s using Nat.strongRecOn with
  | ind s ih =>
  intro a p n c w hs hn hcnt h1
  have IH := Lib.hid fun (x : List Nd) (p : Option Addr) (n c : Nat) (w : World) (hlt : SizeOf.sizeOf x < SizeOf.sizeOf a) (hn : n = x.length) hc h => ih _ (hs ▸ hlt) x p n c w rfl hn hc h
  have H1 := Lib.hid h1
  obtain ⟨_, _, hv, hc1, hm1⟩ := h1.slice
  injection hv with e1 z1 e2
  subst e1 e2
  clear z1
  rw [← hn] at hc1
  unfold maxLen at hm1
  have HK := Lib.hid (cntL_kids a)
  have hna : n ≤ 1099511627776 := by have := HK.out; omega
  have HN := Lib.hid hn
  have HCN := Lib.hid hcnt
  clear h1 ih hs hn hcnt
  go_enter Tryd.func10, Tryd.ntmps10
  go_wp2_with fail
  go_loopw [3, 10] (fun sv i wr => ∃ k S : Nat, k ≤ n ∧ i = .int .i64 k ∧ sv = .int .i64 S ∧ Below w.heap.size w wr ∧ S + kidsL (a.drop k) = cntL a) (fun _ i _ => n - (intOf i).toNat)
  case atStart => exact ⟨0, n, by omega, rfl, rfl, Below.refl _ _, by rw [HK.out, HN.out]; rfl⟩
  case round =>
    obtain ⟨k, S, hk, rfl, rfl, hb, hd⟩ := hrel
    rename World => wr
    have HB := Lib.hid hb
    have hsz := hb.size
    rcases Nat.lt_or_eq_of_le hk with hlt | rfl
    · have hl1 : k < a.length := by rw [← HN.out]; exact hlt
      obtain ⟨g, pa, ca, pl, cl, rfl, hg, ⟨c0, c1, c2, c3, c4⟩, -, hl⟩ := H1.out.at_ hl1
      have x0 := (hb.cell (p := ⟨g, k * 5, none⟩) hg).trans c0
      have x1 := (hb.cell (p := ⟨g, k * 5 + 1, none⟩) hg).trans c1
      have x2 := (hb.cell (p := ⟨g, k * 5 + 2, none⟩) hg).trans c2
      have x3 := (hb.cell (p := ⟨g, k * 5 + 3, none⟩) hg).trans c3
      have x4 := (hb.cell (p := ⟨g, k * 5 + 4, none⟩) hg).trans c4
      have lg : g < wr.heap.size := Nat.lt_of_lt_of_le hg hsz
      clear c0 c1 c2 c3 c4 hb
      rw [List.drop_eq_getElem_cons hl1, kidsL, kids_list] at hd
      have hle : S ≤ 1099511627776 := by have := HCN.out; omega
      have hcl : cntL a[k].list ≤ 1099511627776 := by have := HCN.out; omega
      have HC := Lib.hid fun w1 (hw : Below wr.heap.size wr w1) => IH.out a[k].list pl _ cl w1 (list_lt_at hl1) rfl hcl ((hl.below HB.out).below hw)
      have HD := Lib.hid hd
      clear hd hl
      generalize a[k] = x at *
      generalize hct : cntL x.list = m at *
      clear hct
      have q1 : (k : Int) < (n : Int) := by omega
      have HLT := Lib.hid hl1
      clear hl1
      go_wp2_with (go_at_call 10; refine (HC.out _ ((Below.refl _ _).alloc (Nat.le_refl _) _)).mono ?_; rintro e w6 ⟨rfl, hb6⟩; have HB6 := Lib.hid ((HB.out.trans (((Below.refl wr.heap.size wr).alloc (Nat.le_refl _) _).mono hsz)).trans (hb6.mono (by simp; omega))); clear hb6)
      go_roundw
      case rel => exact ⟨k + 1, S + m, by omega, by go_num, by go_num, HB6.out, by have := HD.out; omega⟩
      case measure => simp [intOf]; omega
    · have HT := Lib.hid (show S = cntL a by
        rw [← hd, List.drop_eq_nil_of_le (by have := HN.out; omega)]; rfl)
      go_wp2_with fail
      go_ret
      exact ⟨by rw [← HT.out]; rfl, HB.out⟩
end Go.Proofs.YtabpkpeonbdinaaDoor.Tree

/-
  Layer 13 (tree): all.
-/
import Derived.Test.YtabpkpeonbdinaaDoorTreeBlk
namespace Go.Proofs.YtabpkpeonbdinaaDoor.Tree
open Go.RowKit Go.Proofs.YtabpkpeonbdinaaDoor.Own Go.Proofs.YtabpkpeonbdinaaDoor.Rw Go.Proofs.YtabpkpeonbdinaaDoor.Lex

set_option maxRecDepth 100000 in
set_option maxHeartbeats 4000000 in
theorem all_calls (P : List Pc) (p : Option Addr) (c rb : Nat) (w : World) (h : Rd w P p c rb 0) (hp : ∀ a, p = some a → a.block < w.heap.size) :
    Calls Tryd.prog 13 #[.pointer (some ⟨rb, 0, none⟩)] w fun e w' => BkPost P p c rb 0 w e w' (treeOf P) := by
  obtain ⟨i0, hi, hz0, hz1, hz2⟩ := info_parts info_node
  have HP := Lib.hid hp
  have H := Lib.hid h
  clear h hp
  go_enter Tryd.func13, Tryd.ntmps13
  go_wp2_with fail
  go_loopw [3] (fun v wr => ∃ (acc : List Nd) (xs : List Value) (k1 f1 m : Nat) (wo : World), wr = wo.drewN m ∧ BlkAt P p c rb 0 w wo acc v xs k1 ∧ P.length - k1 < f1 ∧ alls (lastOf P) f1 acc (P.drop k1) = treeOf P) (fun _ wr => Tree.left P rb wr)
  case atStart => exact ⟨[], [], 0, P.length + 1, 0, w, rfl, .start H.out, by omega, rfl⟩
  case round =>
    obtain ⟨acc, xs, k1, f1, m, wo, rfl, C, hf2, hbk⟩ := hrel
    have HC := Lib.hid C
    have HBK := Lib.hid hbk
    have hk1 := C.rd.le
    have hfew := C.rd.few
    have hac := C.few
    have hs := C.out.size
    have hcap := C.rd.pcs.cap
    have hmax := C.rd.pcs.max
    unfold maxLen at hmax
    obtain ⟨vp, vc, rfl⟩ := own_form C.own
    have e0 : wo.cell? ⟨rb, 0, none⟩ = some (.slice p P.length c) := at_cell C.rd.at_ 0
    have e1 : wo.cell? ⟨rb, 1, none⟩ = some (.int .i64 k1) := at_cell C.rd.at_ 1
    clear C hbk
    obtain ⟨f2, rfl⟩ : ∃ f2, f1 = f2 + 1 := ⟨f1 - 1, by omega⟩
    rcases Nat.lt_or_eq_of_le hk1 with hl | hl
    · have q1 : (k1 : Int) < (P.length : Int) := by omega
      have hne : P ≠ [] := by intro e; rw [e] at hl; simp at hl
      go_wp2_with fail
      go_quiet (fail)
      have HN := Lib.hid fun n => next_ok P p c rb k1 (wo.drewN n) (HC.out.rd.kept (below_drew (Below.refl _ _))) hl
      have HD := Lib.hid (drop_at hl)
      generalize P[k1] = x at HN HD
      have HSC := Lib.hid fun w5 (h5 : Rd w5 P p c rb (k1 + 1)) => stm_calls P p c rb (fun d r => blk (lastOf P) f2 d [] r) 0 (k1 + 1) (by omega) (by omega) x w5 h5 fun h4 k2 w1 hk2 hr2 => blk_calls P p c rb hne f2 (0 + 1) k2 _ w1 (by simp) (by omega) (by omega) (by omega) hr2
      have HST := Lib.hid (show treeOf P = thenB (fun n r2 => alls (lastOf P) f2 (acc ++ [n]) r2) (stm (lastOf P) (fun d r => blk (lastOf P) f2 d [] r) 0 x (P.drop (k1 + 1))) by
        rw [← HBK.out, HD.out]
        cases e : stm (lastOf P) (fun d r => blk (lastOf P) f2 d [] r) 0 x (P.drop (k1 + 1)) with
        | bad c l => exact alls_bad _ _ _ e
        | ok n r2 => exact alls_ok _ _ _ e)
      obtain ⟨kx, t2, l2⟩ := x
      unfold pcv at HN HSC
      generalize stm (lastOf P) (fun d r => blk (lastOf P) f2 d [] r) 0 ⟨kx, t2, l2⟩ (P.drop (k1 + 1)) = r1 at HSC HST
      go_wp2_with fail
      refine (HN.out _).mono ?_
      rintro e w5 ⟨rfl, hr5, ho5⟩
      have ho5' : Out (OnlyR rb) wo w5 := ho5.ofDrewN
      clear ho5
      go_wp2_with fail
      refine (HSC.out _ hr5).mono ?_
      intro e w7 hPost
      cases hPost with
      | bad hG =>
        obtain ⟨g, rfl, hfa, ho⟩ := hG
        refine ⟨rfl, ?_⟩
        rw [HST.out]
        exact .bad ⟨g, rfl, hfa, (HC.out.out.trans ho5' fun _ _ h => h).trans ho fun _ _ h => h⟩
      | @ok nd k2 va vl he hn hr7 hk7 ho7 =>
        subst he
        have HH := Lib.hid (HC.out.own_at ho5' (Below.refl _ _) ho7)
        obtain ⟨⟨ap, ac, rfl⟩, lp, lc, rfl⟩ := hn.forms
        have hone := Lib.hid (Ls.one hn)
        have HNO := Lib.hid hn
        have HR7 := Lib.hid hr7
        have HO7 := Lib.hid ho7
        have HO5 := Lib.hid ho5'
        have hs7 := HH.out.2.2.1.size
        clear hn hr7 ho7 ho5' hr5
        unfold str at HNO hone ⊢
        go_wp2_with (at_builtin; refine wpList_append_own_at _ rfl (.tmp 14) (.tmp 19) 23 rfl w.heap.size 35 i0 _ 5 80 Tryd.underlying23 hi hz0 hz1 hz2 rfl (by decide) _ _ _ rfl (World.ownsRow.alloc HH.out.1 _) _ 1 1 [.string ⟨nd.key.toArray⟩, .slice ap nd.args.length ac, .bool nd.block, .slice lp nd.list.length lc, .int .i64 nd.line] rfl rfl (five_new _ _ _ _ _ _ _ _ rfl) hone.out (by unfold maxLen; omega) (by omega) (by simp; omega) ?_; intro v' w1 hown1 hgrow1 _ hob; have C1 := Lib.hid (HC.out.step HP.out HO5.out (Below.refl _ _) HO7.out HNO.out HR7.out hk7 ((Below.refl _ _).alloc (Nat.le_refl _) _) hown1 hgrow1 hob); clear hown1 hgrow1 hob)
        go_roundw
        case rel =>
          obtain ⟨ys, C2⟩ := C1.out
          exact ⟨_, ys, k2, f2, 0, _, rfl, C2, by omega, HST.out.symm⟩
        case measure =>
          obtain ⟨ys, C2⟩ := C1.out
          show Tree.left P rb _ < Tree.left P rb wo
          rw [C2.rd.left, HC.out.rd.left]; omega
    · have HS := Lib.hid (show treeOf P = .ok acc (P.drop k1) by rw [← HBK.out, drop_end hl, alls_nil])
      go_wp2_with fail
      go_quiet (fail)
      go_wp2_with fail
      go_ret
      rw [HS.out]
      exact .ok rfl (Fo.below ⟨xs, HC.out.own, HC.out.ls⟩ (below_drew (below_drew (Below.refl _ _)))) (HC.out.rd.kept (below_drew (below_drew (Below.refl _ _)))) (Nat.zero_le _) ((HC.out.out.drewN _).drewN _)
end Go.Proofs.YtabpkpeonbdinaaDoor.Tree

/-
Layer 19 (line): LineWrites, walked.
-/
import Derived.Test.YtnkhdpenmekhdaaWPack7
section
namespace Go.Proofs.Ytnkhdpenmekhdaa.Lin
open Go.RowKit Go.Proofs.Ytnkhdpenmekhdaa.Own Go.Proofs.Ytnkhdpenmekhdaa.Brk Go.Proofs.Ytnkhdpenmekhdaa.Calc Go.Proofs.Ytnkhdpenmekhdaa.Tree Go.Proofs.Ytnkhdpenmekhdaa.Run Go.Proofs.Ytnkhdpenmekhdaa.Bkf

theorem mid_up {x : Ln} {W H : List UInt8} (h : x.st = 4) : mid x W H = (W ++ H, []) := if_pos h
theorem mid_no {x : Ln} {W H : List UInt8} (h : x.st ≠ 4) : mid x W H = (W, H) := if_neg h
theorem got_le {now : Int} {x : Ln} {W H G : List UInt8} (h : Inv now x (mid x W H).1 (mid x W H).2 G) : G.length ≤ W.length + H.length := by
  rcases h.st with ⟨h1, h2, h3⟩ | ⟨h1, r, h2⟩
  · rw [mid_up (by rw [h1]; rfl)] at h3
    rw [h3, List.length_append]
    exact Nat.le_refl _
  · rw [mid_no (by omega)] at h2
    have h2 : W = G ++ r := h2
    rw [h2, List.length_append]
    omega
theorem ite_len (c : Prop) [Decidable c] (A s : List UInt8) : (if c then A ++ s else A).length ≤ A.length + s.length := by
  split
  · rw [List.length_append]; exact Nat.le_refl _
  · exact Nat.le_add_right _ _
theorem byt_le (L : List Op) (B : Nat) (h : ∀ x ∈ L, x.s.length ≤ B) : (byt L).length ≤ L.length * B := by
  induction L with
  | nil => simp [byt]
  | cons x r ih =>
    have h1 := h x (by simp)
    have h2 := ih fun y hy => h y (List.mem_cons_of_mem _ hy)
    simp only [byt, List.length_append, List.length_cons, Nat.add_mul, Nat.one_mul]
    omega
theorem ez_is : rC [] = 0 ∧ rV [] = [] := r_some (by decide) (rdF_nil [])
theorem cut_pre (G r : List UInt8) (n : Nat) (hn : G.length = n) (W : World) :
    (Instr.sliceAt 9 (.string ⟨(G ++ r).toArray⟩) none (some (.int .i64 n)) none).run Try.prog W = .ok (.string ⟨G.toArray⟩) W := by
  subst hn
  have := cut_first ⟨(G ++ r).toArray⟩ G.length (by show G.length ≤ (G ++ r).toArray.size; simp) W
  rw [this]
  simp
/-- the relation at the head of the loop -/
structure WrAt (w wr : World) (k : Nat) (x : Ln) (q : Nat) (nw : Int) (W H G : List UInt8) : Prop where
  ex : ∃ S, Wk w wr k S x
  inv : Inv nw x W H G
  rng : 0 ≤ nw ∧ nw ≤ 255 * (q : Int)
  sz : W.length + H.length ≤ q * 2251799813685248
theorem WrAt.keep {w wr w' : World} {k q q' : Nat} {x : Ln} {nw : Int} {W H G : List UInt8} (h : WrAt w wr k x q nw W H G) (hb : Below wr.heap.size wr w') (hq : q ≤ q') : WrAt w w' k x q' nw W H G := by
  obtain ⟨⟨S, h1⟩, h2, h3, h4⟩ := h
  exact ⟨⟨S, h1.keep hb⟩, h2, by omega, Nat.le_trans h4 (Nat.mul_le_mul_right _ hq)⟩
def y0 : Ln := mk 1 1 0 []
def y1 : Ln := ⟨1, 1, 0, [], 2, 0, 0, [], 0, 0, []⟩
theorem f1 : startL y0 = y1 ∧ startO y0 = [(1, [])] := ⟨rfl, rfl⟩
theorem f2 : openL y1 0 true 0 = up1 ∧ openO y1 0 true = [] := ⟨rfl, rfl⟩
set_option maxRecDepth 100000 in
set_option maxHeartbeats 16000000 in
theorem writes_walk (p0 : Option Addr) (m cap : Nat) (o : Nat → Ac) (w : World) (hR : Row w (.slice p0 m cap) m 6 (fun i j => (o i).cells.getD j undef)) (hO : ∀ i, i < m → OkA w (o i)) :
    Calls Try.prog 4 #[.slice p0 m cap] w fun e w' => e = .returned (.bool true) ∧ Below w.heap.size w w' := by
  obtain ⟨a0, cap0, e0, hcap, hmax, hcells⟩ := hR
  cases e0
  unfold maxLen at hmax
  by_cases hm60 : 60 < m
  · have q0 : (60 : Int) < (m : Int) := by omega
    go_enter Try.func4, Try.ntmps4
    go_wp2_with (go_at_call 6; refine (works_calls _).mono ?_; rintro e w' ⟨rfl, hw⟩)
    go_ret
    exact ⟨rfl, hw⟩
  have q0 : ¬ (60 : Int) < (m : Int) := by omega
  have HO := Lib.hid hO
  have HC := Lib.hid hcells
  have C1 : newC 1 1 0 [] = 0 := by unfold newC; rw [if_pos (by decide), ez_is.1]
  have HC1 := Lib.hid C1
  clear hO hcells hm60 C1
  go_enter Try.func4, Try.ntmps4
  go_wp2_with fail
  refine (new_line (.string ⟨#[]⟩) (.int .i64 0) (.int .i64 0) (.int .i64 0) (.int .i64 0) (.int .i64 0) 1 1 0 [] (by decide) w).mono ?_
  rintro e w1 (⟨h, _⟩ | ⟨_, k, S, rfl, hM, hS, hB⟩)
  · exact absurd HC1.out h
  rw [ez_is.2] at hM
  have W1 : Hid (Wk w w1 k S y0) := Lib.hid ⟨hM, hS, hB⟩
  clear hM hS hB
  go_wp2_with fail
  refine (start_calls W1.out.mem).mono ?_
  rintro e w2 hG
  obtain ⟨S2, p2, c2, rfl, hW, -, -⟩ := W1.out.gives hG f1.1 f1.2
  have W2 := Lib.hid hW
  clear hG hW W1
  go_wp2_with fail
  refine (opened_calls 0 0 true (by decide) W2.out.mem).mono ?_
  rintro e w3 hG
  obtain ⟨S3, p3, c3, rfl, hW, -, -⟩ := W2.out.gives hG f2.1 f2.2
  have HW0 : Hid (WrAt w w3 k up1 0 0 [] [] []) := Lib.hid ⟨⟨S3, hW⟩, .up _, by omega, by simp⟩
  clear hG hW W2
  go_wp2_with fail
  go_loopw [5, 6, 7, 8, 9] (fun nv wv hv gv iv wr => ∃ (q : Nat) (nw : Int) (x : Ln) (W H G : List UInt8), q ≤ m ∧ iv = .int .i64 q ∧ nv = .int .i64 nw ∧ wv = .string ⟨W.toArray⟩ ∧ hv = .string ⟨H.toArray⟩ ∧ gv = .string ⟨G.toArray⟩ ∧ Hid (WrAt w wr k x q nw W H G)) (fun _ _ _ _ iv _ => m - (Go.RowKit.intOf iv).toNat)
  case atStart => exact ⟨0, 0, up1, [], [], [], Nat.zero_le _, rfl, rfl, rfl, rfl, rfl, HW0⟩
  case round =>
    obtain ⟨q, nw, x, W, H, G, hq, rfl, rfl, rfl, rfl, rfl, HA⟩ := hrel
    clear HW0
    rcases Nat.lt_or_eq_of_le hq with hlt | rfl
    · have q1 : (q : Int) < (m : Int) := by omega
      rcases HC.out with h0 | ⟨bx, ox, rfl, hbl, hcx⟩
      · omega
      · have hoa := HO.out q hlt
        have hca := fun j hj => hcx q j hlt hj
        obtain ⟨a, ha⟩ : ∃ a, o q = a := ⟨_, rfl⟩
        rw [ha] at hoa
        simp only [ha] at hca
        obtain ⟨S, hWX⟩ := HA.out.ex
        have hbw := hWX.below
        have CA : ∀ j, j < 6 → wr.cell? ⟨bx, ox + q * 6 + j, none⟩ = some (a.cells.getD j undef) := fun j hj => (hbw.cell (p := ⟨bx, _, none⟩) hbl).trans (hca j hj)
        obtain ⟨ak, ag, aok, ar, sx, aq, an, ac, aL⟩ := a
        have xx0 : wr.cell? ⟨bx, ox + q * 6, none⟩ = some (.int .u8 ak) := CA 0 (by omega)
        have xx1 : wr.cell? ⟨bx, ox + q * 6 + 1, none⟩ = some (.int .u8 ag) := CA 1 (by omega)
        have xx2 : wr.cell? ⟨bx, ox + q * 6 + 2, none⟩ = some (.bool aok) := CA 2 (by omega)
        have xx3 : wr.cell? ⟨bx, ox + q * 6 + 3, none⟩ = some (.int .i64 ar) := CA 3 (by omega)
        have xx4 : wr.cell? ⟨bx, ox + q * 6 + 4, none⟩ = some (.string ⟨sx.toArray⟩) := CA 4 (by omega)
        have xx5 : wr.cell? ⟨bx, ox + q * 6 + 5, none⟩ = some (.slice aq an ac) := CA 5 (by omega)
        obtain ⟨okk, okg, okr, oks, oklen, okops, okfew⟩ := hoa
        simp only at okk okg okr oks oklen okops okfew
        have HOPS := Lib.hid okops
        have HLEN := Lib.hid oklen
        have HFEW := Lib.hid okfew
        have hacap := okops.cap
        have hamax := okops.max
        rw [oklen] at hacap
        unfold maxLen at hamax
        have hB1 : Below wr.heap.size wr (wr.alloc (.cells #[.int .u8 ak, .int .u8 ag, .bool aok, .int .i64 ar, .string ⟨sx.toArray⟩, .slice aq an ac] 53 (0, 0))) := (Below.refl _ _).alloc (Nat.le_refl _) _
        have HN := Lib.hid (at_new wr (.cells #[.int .u8 ak, .int .u8 ag, .bool aok, .int .i64 ar, .string ⟨sx.toArray⟩, .slice aq an ac] 53 (0, 0)))
        have HSZ : Hid ((wr.alloc (.cells #[.int .u8 ak, .int .u8 ag, .bool aok, .int .i64 ar, .string ⟨sx.toArray⟩, .slice aq an ac] 53 (0, 0))).heap.size = wr.heap.size + 1) := Lib.hid (by simp)
        have HA2 := Lib.hid (HA.out.keep hB1 (Nat.le_refl q))
        have WX := Lib.hid (hWX.keep hB1)
        have hlS := hWX.mem.lt
        have HBX : Hid (∀ V, Own.Out S (wr.alloc (.cells #[.int .u8 ak, .int .u8 ag, .bool aok, .int .i64 ar, .string ⟨sx.toArray⟩, .slice aq an ac] 53 (0, 0))) V → V.heap[wr.heap.size]? = _) := Lib.hid fun V ho => ho.at_ HN.out fun h => by have := hlS _ h; omega
        clear CA hca hWX okops oklen okfew HA hB1 ha hcx hlS
        by_cases hs1 : 1000 < sx.length
        · have z1 : (1000 : Int) < (sx.length : Int) := by omega
          go_wp2_with fail
          go_roundw
          case rel => exact ⟨q + 1, nw, x, W, H, G, hlt, by go_num, rfl, rfl, rfl, rfl, Lib.hid (HA2.out.keep (Below.refl _ _) (by omega))⟩
          case measure => simp [Go.RowKit.intOf]; omega
        have z1 : ¬ (1000 : Int) < (sx.length : Int) := by omega
        by_cases hn12 : 12 < an
        · have z2 : (12 : Int) < (an : Int) := by omega
          have z2' : decide ((12 : Int) < (an : Int)) = true := decide_eq_true z2
          go_wp2_with fail
          go_roundw
          case rel => exact ⟨q + 1, nw, x, W, H, G, hlt, by go_num, rfl, rfl, rfl, rfl, Lib.hid (HA2.out.keep (Below.refl _ _) (by omega))⟩
          case measure => simp [Go.RowKit.intOf]; omega
        have z2 : ¬ (12 : Int) < (an : Int) := by omega
        obtain ⟨_, hinv, hrng, hsz⟩ := HA2.out
        have hq60 : q ≤ 60 := by omega
        obtain ⟨nt, hnt⟩ : ∃ nt, nw + ag = nt := ⟨_, rfl⟩
        have hnt0 : nw + ag ≤ 15300 ∧ 0 ≤ nw + ag := by omega
        have HI := Lib.hid (hinv.later (show nw ≤ nt by omega)).tick
        have HSZ0 := Lib.hid hsz
        have HRN : Hid (0 ≤ nt ∧ nt ≤ 255 * ((q + 1 : Nat) : Int)) := Lib.hid (by omega)
        have hsz2 : W.length + H.length ≤ 135107988821114880 := by omega
        clear hinv hsz HA2 hs1 hn12
        go_wp2_with fail
        refine (tick_calls nt WX.out.mem).mono ?_
        rintro e w5 hG
        obtain ⟨x5, hx5⟩ : ∃ x5, tickL x nt = x5 := ⟨_, rfl⟩
        obtain ⟨O5, hO5⟩ : ∃ O5, tickO x nt = O5 := ⟨_, rfl⟩
        rw [hx5, hO5] at HI
        obtain ⟨S5, p5, c5, rfl, hW, hT, hU⟩ := WX.out.gives hG hx5 hO5
        have HBX5 := Lib.hid (hT.stays HBX.out)
        have W5 := Lib.hid hW
        have HU5 := Lib.hid (hU _ (Own.Out.refl _ _))
        have hbG : G.length + (wb O5).length ≤ 135107988821114880 := by
          have h1 := got_le HI.out
          rw [List.length_append] at h1
          omega
        clear hG hW hU hx5 hO5 WX hT HBX xx0 xx1 xx2 xx3 xx4 xx5
        go_wp2_with fail
        refine (wrt_calls O5 p5 c5 _ rfl w5 HU5.out (by omega)).mono ?_
        rintro e w6 ⟨rfl, rfl⟩
        obtain ⟨G5, hG5⟩ : ∃ G5, G ++ wb O5 = G5 := ⟨_, rfl⟩
        rw [hG5] at HI
        have HG5 := Lib.hid hG5
        have hsz5 : G5.length ≤ 135107988821114880 := by rw [← hG5, List.length_append]; exact hbG
        clear HU5 hG5
        go_wp2_with fail
        clear hbG
        refine (state_calls W5.out.mem).mono ?_
        rintro e w7 ⟨rfl, rfl⟩
        simp only [Go.Proofs.Ytnkhdpenmekhdaa.Digit.bytes_add, HG5.out]
        rcases HI.out.st with ⟨e1, e2, e3⟩ | ⟨e1, r1, e3⟩
        · subst e1
          rw [show up1.st = 4 from rfl]
          obtain ⟨W6, hW6⟩ : ∃ W6, W ++ H = W6 := ⟨_, rfl⟩
          have HI2 : Hid (Inv nt up1 W6 [] G5) := Lib.hid (by have := HI.out; rw [mid_up (show up1.st = 4 from rfl)] at this; rwa [← hW6])
          have HW6 := Lib.hid hW6
          have hsz6 : W6.length ≤ q * 2251799813685248 ∧ W6.length ≤ 135107988821114880 := by
            have := HSZ0.out
            have := congrArg List.length hW6
            simp only [List.length_append] at this
            omega
          clear e2 e3 HI hW6
          by_cases hk : ak % 2 = 0
          · have hkb : (ak % 2 == 0) = true := by simpa using hk
            clear hk
            have t0 : w6.cell? ⟨wr.heap.size, 0, none⟩ = some (.int .u8 ak) := at_cell (HBX5.out _ (Own.Out.refl _ _)) 0
            have t4 : w6.cell? ⟨wr.heap.size, 4, none⟩ = some (.string ⟨sx.toArray⟩) := at_cell (HBX5.out _ (Own.Out.refl _ _)) 4
            obtain ⟨x8, hx8⟩ : ∃ x8, sendL up1 sx = x8 := ⟨_, rfl⟩
            obtain ⟨O8, hO8⟩ : ∃ O8, sendO up1 sx = O8 := ⟨_, rfl⟩
            obtain ⟨b8, hb8⟩ : ∃ b8, sendB up1 sx = b8 := ⟨_, rfl⟩
            have HI8 := Lib.hid (HI2.out.send sx)
            rw [hx8, hO8, hb8] at HI8
            go_wp2_with fail
            refine (send_calls sx W5.out.mem).mono ?_
            rintro e w8 ⟨v8, rfl, hG⟩
            obtain ⟨S8, p8, c8, e, hW, hT, hU⟩ := W5.out.gives hG hx8 hO8
            have HBX8 := Lib.hid (hT.stays HBX5.out)
            cases e
            rw [hb8]
            have W8 := Lib.hid hW
            have HU8 := Lib.hid (hU _ (Own.Out.refl _ _))
            obtain ⟨G8, hG8⟩ : ∃ G8, G5 ++ wb O8 = G8 := ⟨_, rfl⟩
            rw [hG8] at HI8
            have HG8 := Lib.hid hG8
            have hg8 : G8.length ≤ 135107988821114880 + 1000 := by
              have h1 := got_le HI8.out
              have h2 := ite_len (b8 = true) [] sx
              have h3 : ([] : List UInt8).length = 0 := rfl
              omega
            have hg9 : G5.length + (wb O8).length ≤ 135107988821114880 + 1000 := by rw [← hG8, List.length_append] at hg8; exact hg8
            have y4 : w8.cell? ⟨wr.heap.size, 4, none⟩ = some (.string ⟨sx.toArray⟩) := at_cell (HBX8.out _ (Own.Out.refl _ _)) 4
            clear hG hW hU hx8 hO8 hb8 hG8 hT t0 t4
            go_wp2_with fail
            refine (wrt_calls O8 p8 c8 _ rfl w8 HU8.out (by omega)).mono ?_
            rintro e w9 ⟨rfl, rfl⟩
            cases b8 with
            | true =>
              have HI8 : Hid (Inv nt x8 (mid x8 W6 sx).1 (mid x8 W6 sx).2 G8) := Lib.hid (by have := HI8.out; rwa [if_pos rfl, List.nil_append] at this)
              go_wp2_with fail
              simp only [Go.Proofs.Ytnkhdpenmekhdaa.Digit.bytes_add, HW6.out, HG8.out]
              have hsz0 := HSZ0.out
              refine (state_calls W8.out.mem).mono ?_
              rintro e w9 ⟨rfl, rfl⟩
              rcases HI8.out.st with ⟨e1, e2, e3⟩ | ⟨e1, r1, e3⟩
              · subst e1
                rw [mid_up (show up1.st = 4 from rfl)] at e3
                replace e3 : G8 = W6 ++ sx := e3
                have HCAT : Hid ((⟨(W6).toArray⟩ : ByteArray) ++ ⟨(sx).toArray⟩ = ⟨G8.toArray⟩) := Lib.hid (by rw [Go.Proofs.Ytnkhdpenmekhdaa.Digit.bytes_add, e3])
                have l9 := congrArg List.length e3
                simp only [List.length_append] at l9
                have hcz : (W6).length + (sx).length ≤ 4611686018427387904 := by omega
                clear e3
                have HW9 : Hid (WrAt w _ k up1 (q + 1) nt G8 [] G8) := Lib.hid ⟨⟨_, W8.out⟩, .up _, HRN.out, by simp only [List.length_nil]; omega⟩
                have HST := Lib.hid (state_calls W8.out.mem)
                rw [show up1.st = 4 from rfl] at HST ⊢
                have hcut : ∀ V : World, (Instr.sliceAt 9 (.string ⟨G8.toArray⟩) none (some (.int .i64 (G8.length : Int))) none).run Try.prog V = .ok (.string ⟨G8.toArray⟩) V := fun V => by have := cut_pre G8 [] G8.length rfl V; rwa [List.append_nil] at this
                clear HI8 e2 l9
                go_upto_region 30 with (fail)
                rw [HCAT.out]
                go_wp2_with (go_at_call 9; refine HST.out.mono ?_; rintro e w9 ⟨rfl, rfl⟩)
                go_roundw
                case rel => exact ⟨q + 1, nt, up1, G8, [], G8, hlt, by go_num, rfl, rfl, rfl, rfl, HW9⟩
                case measure => simp [Go.RowKit.intOf]; omega
              · have e4 : x8.st ≠ 4 := by omega
                have hI9 := HI8.out
                rw [mid_no e4] at e3 hI9
                replace e3 : W6 = G8 ++ r1 := e3
                have l9 := congrArg List.length e3
                simp only [List.length_append] at l9
                have HWR : Hid (WrAt w _ k x8 (q + 1) nt W6 sx G8) := Lib.hid ⟨⟨_, W8.out⟩, hI9, HRN.out, by first | exact Nat.le_trans hsz0 (Nat.mul_le_mul_right _ (Nat.le_succ q)) | omega | (simp only [List.length_nil]; omega)⟩
                have HST := Lib.hid (state_calls W8.out.mem)
                rw [e1] at HST ⊢
                have hcut : ∀ V : World, (Instr.sliceAt 9 (.string ⟨(W6).toArray⟩) none (some (.int .i64 (G8.length : Int))) none).run Try.prog V = .ok (.string ⟨G8.toArray⟩) V := fun V => by rw [e3]; exact cut_pre G8 r1 G8.length rfl V
                have z9 : ¬ ((W6).length : Int) < (G8.length : Int) := by omega
                clear hI9 e3 e4 e1 HI8 l9
                go_wp2_with (go_at_call 9; refine HST.out.mono ?_; rintro e w9 ⟨rfl, rfl⟩)
                go_roundw
                case rel => exact ⟨q + 1, nt, x8, W6, sx, G8, hlt, by go_num, rfl, rfl, rfl, rfl, HWR⟩
                case measure => simp [Go.RowKit.intOf]; omega
            | false =>
              have HI8 : Hid (Inv nt x8 (mid x8 W6 []).1 (mid x8 W6 []).2 G8) := Lib.hid (by have := HI8.out; rwa [if_neg (by simp)] at this)
              go_wp2_with fail
              simp only [Go.Proofs.Ytnkhdpenmekhdaa.Digit.bytes_add, HW6.out, HG8.out]
              have hsz0 := HSZ0.out
              refine (state_calls W8.out.mem).mono ?_
              rintro e w9 ⟨rfl, rfl⟩
              rcases HI8.out.st with ⟨e1, e2, e3⟩ | ⟨e1, r1, e3⟩
              · subst e1
                rw [mid_up (show up1.st = 4 from rfl)] at e3
                replace e3 : G8 = W6 := by simpa using e3
                subst e3
                have HW9 : Hid (WrAt w _ k up1 (q + 1) nt G8 [] G8) := Lib.hid ⟨⟨_, W8.out⟩, .up _, HRN.out, by simp only [List.length_nil]; omega⟩
                have HST := Lib.hid (state_calls W8.out.mem)
                rw [show up1.st = 4 from rfl] at HST ⊢
                have hcut : ∀ V : World, (Instr.sliceAt 9 (.string ⟨G8.toArray⟩) none (some (.int .i64 (G8.length : Int))) none).run Try.prog V = .ok (.string ⟨G8.toArray⟩) V := fun V => by have := cut_pre G8 [] G8.length rfl V; rwa [List.append_nil] at this
                clear HI8 e2
                go_upto_region 30 with (fail)
                rw [show (⟨G8.toArray⟩ : ByteArray) ++ ⟨#[]⟩ = ⟨G8.toArray⟩ from (Go.Proofs.Ytnkhdpenmekhdaa.Digit.bytes_add G8 []).trans (by rw [List.append_nil])]
                go_wp2_with (go_at_call 9; refine HST.out.mono ?_; rintro e w9 ⟨rfl, rfl⟩)
                go_roundw
                case rel => exact ⟨q + 1, nt, up1, G8, [], G8, hlt, by go_num, rfl, rfl, rfl, rfl, HW9⟩
                case measure => simp [Go.RowKit.intOf]; omega
              · have e4 : x8.st ≠ 4 := by omega
                have hI9 := HI8.out
                rw [mid_no e4] at e3 hI9
                replace e3 : W6 = G8 ++ r1 := e3
                have l9 := congrArg List.length e3
                simp only [List.length_append] at l9
                have HWR : Hid (WrAt w _ k x8 (q + 1) nt W6 [] G8) := Lib.hid ⟨⟨_, W8.out⟩, hI9, HRN.out, by first | exact Nat.le_trans hsz0 (Nat.mul_le_mul_right _ (Nat.le_succ q)) | omega | (simp only [List.length_nil]; omega)⟩
                have HST := Lib.hid (state_calls W8.out.mem)
                rw [e1] at HST ⊢
                have hcut : ∀ V : World, (Instr.sliceAt 9 (.string ⟨(W6).toArray⟩) none (some (.int .i64 (G8.length : Int))) none).run Try.prog V = .ok (.string ⟨G8.toArray⟩) V := fun V => by rw [e3]; exact cut_pre G8 r1 G8.length rfl V
                have z9 : ¬ ((W6).length : Int) < (G8.length : Int) := by omega
                clear hI9 e3 e4 e1 HI8 l9
                go_wp2_with (go_at_call 9; refine HST.out.mono ?_; rintro e w9 ⟨rfl, rfl⟩)
                go_roundw
                case rel => exact ⟨q + 1, nt, x8, W6, [], G8, hlt, by go_num, rfl, rfl, rfl, rfl, HWR⟩
                case measure => simp [Go.RowKit.intOf]; omega
          · have hkb : (ak % 2 == 0) = false := by simpa using hk
            clear hk
            have t0 : w6.cell? ⟨wr.heap.size, 0, none⟩ = some (.int .u8 ak) := at_cell (HBX5.out _ (Own.Out.refl _ _)) 0
            have t5 : w6.cell? ⟨wr.heap.size, 5, none⟩ = some (.slice aq an ac) := at_cell (HBX5.out _ (Own.Out.refl _ _)) 5
            obtain ⟨x8, hx8⟩ : ∃ x8, brkL up1 nt aL = x8 := ⟨_, rfl⟩
            obtain ⟨O8, hO8⟩ : ∃ O8, brkO up1 nt aL = O8 := ⟨_, rfl⟩
            obtain ⟨d8, hd8⟩ : ∃ d8, brkC up1 nt aL = d8 := ⟨_, rfl⟩
            have HI8 := Lib.hid (HI2.out.break_ aL (by have := HLEN.out; omega))
            rw [hx8, hO8, hd8] at HI8
            have hby : (byt aL).length ≤ 1688849860263924 := by
              have h1 := byt_le aL 140737488355327 HFEW.out
              have h2 := HLEN.out
              have h3 : aL.length * 140737488355327 ≤ 12 * 140737488355327 := Nat.mul_le_mul_right _ (by omega)
              omega
            go_wp2_with fail
            refine (break_calls nt aL an HLEN.out (by omega) aq ac (HOPS.out.below W5.out.below) W5.out.mem).mono ?_
            rintro e w8 ⟨v8, rfl, hG⟩
            obtain ⟨S8, p8, c8, e, hW, hT, hU⟩ := W5.out.gives hG hx8 hO8
            have HBX8 := Lib.hid (hT.stays HBX5.out)
            cases e
            rw [hd8]
            have W8 := Lib.hid hW
            have HU8 := Lib.hid (hU _ (Own.Out.refl _ _))
            obtain ⟨G8, hG8⟩ : ∃ G8, G5 ++ wb O8 = G8 := ⟨_, rfl⟩
            rw [hG8] at HI8
            have HG8 := Lib.hid hG8
            have hg8 : G8.length ≤ 135107988821114880 + 1688849860263924 := by
              have h1 := got_le HI8.out
              have h2 := ite_len (d8 = 0) W6 (byt aL)
              have h3 : ([] : List UInt8).length = 0 := rfl
              omega
            have hg9 : G5.length + (wb O8).length ≤ 135107988821114880 + 1688849860263924 := by rw [← hG8, List.length_append] at hg8; exact hg8
            have HOP8 := Lib.hid (HOPS.out.below W8.out.below)
            have y5 : w8.cell? ⟨wr.heap.size, 5, none⟩ = some (.slice aq an ac) := at_cell (HBX8.out _ (Own.Out.refl _ _)) 5
            clear hG hW hU hx8 hO8 hd8 hG8 hT t0 t5
            go_wp2_with fail
            refine (wrt_calls O8 p8 c8 _ rfl w8 HU8.out (by omega)).mono ?_
            rintro e w9 ⟨rfl, rfl⟩
            by_cases h0 : d8 = 0
            · have h0b : (d8 == 0) = true := by simpa using h0
              obtain ⟨B8, hB8⟩ : ∃ B8, byt aL = B8 := ⟨_, rfl⟩
              rw [hB8] at HI8 hby
              have HI8 : Hid (Inv nt x8 (mid x8 (W6 ++ B8) []).1 (mid x8 (W6 ++ B8) []).2 G8) := Lib.hid (by have := HI8.out; rwa [if_pos h0] at this)
              have HRB := Lib.hid (rbytes_any aL aq ac an HLEN.out _ HOP8.out (by rw [hB8]; omega))
              rw [hB8] at HRB
              clear h0 hB8
              go_wp2_with fail
              refine HRB.out.mono ?_
              rintro e w10 ⟨rfl, rfl⟩
              go_wp2_with fail
              simp only [Go.Proofs.Ytnkhdpenmekhdaa.Digit.bytes_add, HW6.out, HG8.out]
              have hsz0 := HSZ0.out
              obtain ⟨WW, hWW⟩ : ∃ WW, W6 ++ B8 = WW := ⟨_, rfl⟩
              rw [hWW] at HI8 ⊢
              have lWW := congrArg List.length hWW
              simp only [List.length_append] at lWW
              clear hWW
              refine (state_calls W8.out.mem).mono ?_
              rintro e w9 ⟨rfl, rfl⟩
              rcases HI8.out.st with ⟨e1, e2, e3⟩ | ⟨e1, r1, e3⟩
              · subst e1
                rw [mid_up (show up1.st = 4 from rfl)] at e3
                replace e3 : G8 = WW := by simpa using e3
                subst e3
                have HW9 : Hid (WrAt w _ k up1 (q + 1) nt G8 [] G8) := Lib.hid ⟨⟨_, W8.out⟩, .up _, HRN.out, by simp only [List.length_nil]; omega⟩
                have HST := Lib.hid (state_calls W8.out.mem)
                rw [show up1.st = 4 from rfl] at HST ⊢
                have hcut : ∀ V : World, (Instr.sliceAt 9 (.string ⟨G8.toArray⟩) none (some (.int .i64 (G8.length : Int))) none).run Try.prog V = .ok (.string ⟨G8.toArray⟩) V := fun V => by have := cut_pre G8 [] G8.length rfl V; rwa [List.append_nil] at this
                clear HI8 e2 lWW
                go_upto_region 30 with (fail)
                rw [show (⟨G8.toArray⟩ : ByteArray) ++ ⟨#[]⟩ = ⟨G8.toArray⟩ from (Go.Proofs.Ytnkhdpenmekhdaa.Digit.bytes_add G8 []).trans (by rw [List.append_nil])]
                go_wp2_with (go_at_call 9; refine HST.out.mono ?_; rintro e w9 ⟨rfl, rfl⟩)
                go_roundw
                case rel => exact ⟨q + 1, nt, up1, G8, [], G8, hlt, by go_num, rfl, rfl, rfl, rfl, HW9⟩
                case measure => simp [Go.RowKit.intOf]; omega
              · have e4 : x8.st ≠ 4 := by omega
                have hI9 := HI8.out
                rw [mid_no e4] at e3 hI9
                replace e3 : WW = G8 ++ r1 := e3
                have l9 := congrArg List.length e3
                simp only [List.length_append] at l9
                have HWR : Hid (WrAt w _ k x8 (q + 1) nt WW [] G8) := Lib.hid ⟨⟨_, W8.out⟩, hI9, HRN.out, by first | exact Nat.le_trans hsz0 (Nat.mul_le_mul_right _ (Nat.le_succ q)) | omega | (simp only [List.length_nil]; omega)⟩
                have HST := Lib.hid (state_calls W8.out.mem)
                rw [e1] at HST ⊢
                have hcut : ∀ V : World, (Instr.sliceAt 9 (.string ⟨(WW).toArray⟩) none (some (.int .i64 (G8.length : Int))) none).run Try.prog V = .ok (.string ⟨G8.toArray⟩) V := fun V => by rw [e3]; exact cut_pre G8 r1 G8.length rfl V
                have z9 : ¬ ((WW).length : Int) < (G8.length : Int) := by omega
                clear hI9 e3 e4 e1 HI8 l9 lWW
                go_wp2_with (go_at_call 9; refine HST.out.mono ?_; rintro e w9 ⟨rfl, rfl⟩)
                go_roundw
                case rel => exact ⟨q + 1, nt, x8, WW, [], G8, hlt, by go_num, rfl, rfl, rfl, rfl, HWR⟩
                case measure => simp [Go.RowKit.intOf]; omega
            · have h0b : (d8 == 0) = false := by simpa using h0
              have HI8 : Hid (Inv nt x8 (mid x8 W6 []).1 (mid x8 W6 []).2 G8) := Lib.hid (by have := HI8.out; rwa [if_neg h0] at this)
              clear h0
              go_wp2_with fail
              simp only [Go.Proofs.Ytnkhdpenmekhdaa.Digit.bytes_add, HW6.out, HG8.out]
              have hsz0 := HSZ0.out
              refine (state_calls W8.out.mem).mono ?_
              rintro e w9 ⟨rfl, rfl⟩
              rcases HI8.out.st with ⟨e1, e2, e3⟩ | ⟨e1, r1, e3⟩
              · subst e1
                rw [mid_up (show up1.st = 4 from rfl)] at e3
                replace e3 : G8 = W6 := by simpa using e3
                subst e3
                have HW9 : Hid (WrAt w _ k up1 (q + 1) nt G8 [] G8) := Lib.hid ⟨⟨_, W8.out⟩, .up _, HRN.out, by simp only [List.length_nil]; omega⟩
                have HST := Lib.hid (state_calls W8.out.mem)
                rw [show up1.st = 4 from rfl] at HST ⊢
                have hcut : ∀ V : World, (Instr.sliceAt 9 (.string ⟨G8.toArray⟩) none (some (.int .i64 (G8.length : Int))) none).run Try.prog V = .ok (.string ⟨G8.toArray⟩) V := fun V => by have := cut_pre G8 [] G8.length rfl V; rwa [List.append_nil] at this
                clear HI8 e2
                go_upto_region 30 with (fail)
                rw [show (⟨G8.toArray⟩ : ByteArray) ++ ⟨#[]⟩ = ⟨G8.toArray⟩ from (Go.Proofs.Ytnkhdpenmekhdaa.Digit.bytes_add G8 []).trans (by rw [List.append_nil])]
                go_wp2_with (go_at_call 9; refine HST.out.mono ?_; rintro e w9 ⟨rfl, rfl⟩)
                go_roundw
                case rel => exact ⟨q + 1, nt, up1, G8, [], G8, hlt, by go_num, rfl, rfl, rfl, rfl, HW9⟩
                case measure => simp [Go.RowKit.intOf]; omega
              · have e4 : x8.st ≠ 4 := by omega
                have hI9 := HI8.out
                rw [mid_no e4] at e3 hI9
                replace e3 : W6 = G8 ++ r1 := e3
                have l9 := congrArg List.length e3
                simp only [List.length_append] at l9
                have HWR : Hid (WrAt w _ k x8 (q + 1) nt W6 [] G8) := Lib.hid ⟨⟨_, W8.out⟩, hI9, HRN.out, by first | exact Nat.le_trans hsz0 (Nat.mul_le_mul_right _ (Nat.le_succ q)) | omega | (simp only [List.length_nil]; omega)⟩
                have HST := Lib.hid (state_calls W8.out.mem)
                rw [e1] at HST ⊢
                have hcut : ∀ V : World, (Instr.sliceAt 9 (.string ⟨(W6).toArray⟩) none (some (.int .i64 (G8.length : Int))) none).run Try.prog V = .ok (.string ⟨G8.toArray⟩) V := fun V => by rw [e3]; exact cut_pre G8 r1 G8.length rfl V
                have z9 : ¬ ((W6).length : Int) < (G8.length : Int) := by omega
                clear hI9 e3 e4 e1 HI8 l9
                go_wp2_with (go_at_call 9; refine HST.out.mono ?_; rintro e w9 ⟨rfl, rfl⟩)
                go_roundw
                case rel => exact ⟨q + 1, nt, x8, W6, [], G8, hlt, by go_num, rfl, rfl, rfl, rfl, HWR⟩
                case measure => simp [Go.RowKit.intOf]; omega
        · have HI2 : Hid (Inv nt x5 W H G5) := Lib.hid (by have := HI.out; rwa [mid_no (by omega)] at this)
          rw [e1]
          clear e1 e3 HI
          by_cases hk : ak % 2 = 0
          · have hkb : (ak % 2 == 0) = true := by simpa using hk
            clear hk
            have t0 : w6.cell? ⟨wr.heap.size, 0, none⟩ = some (.int .u8 ak) := at_cell (HBX5.out _ (Own.Out.refl _ _)) 0
            have t4 : w6.cell? ⟨wr.heap.size, 4, none⟩ = some (.string ⟨sx.toArray⟩) := at_cell (HBX5.out _ (Own.Out.refl _ _)) 4
            obtain ⟨x8, hx8⟩ : ∃ x8, sendL x5 sx = x8 := ⟨_, rfl⟩
            obtain ⟨O8, hO8⟩ : ∃ O8, sendO x5 sx = O8 := ⟨_, rfl⟩
            obtain ⟨b8, hb8⟩ : ∃ b8, sendB x5 sx = b8 := ⟨_, rfl⟩
            have HI8 := Lib.hid (HI2.out.send sx)
            rw [hx8, hO8, hb8] at HI8
            go_wp2_with fail
            refine (send_calls sx W5.out.mem).mono ?_
            rintro e w8 ⟨v8, rfl, hG⟩
            obtain ⟨S8, p8, c8, e, hW, hT, hU⟩ := W5.out.gives hG hx8 hO8
            have HBX8 := Lib.hid (hT.stays HBX5.out)
            cases e
            rw [hb8]
            have W8 := Lib.hid hW
            have HU8 := Lib.hid (hU _ (Own.Out.refl _ _))
            obtain ⟨G8, hG8⟩ : ∃ G8, G5 ++ wb O8 = G8 := ⟨_, rfl⟩
            rw [hG8] at HI8
            have HG8 := Lib.hid hG8
            have hg8 : G8.length ≤ 135107988821114880 + 1000 := by
              have h1 := got_le HI8.out
              have h2 := ite_len (b8 = true) H sx
              have h3 : ([] : List UInt8).length = 0 := rfl
              omega
            have hg9 : G5.length + (wb O8).length ≤ 135107988821114880 + 1000 := by rw [← hG8, List.length_append] at hg8; exact hg8
            have y4 : w8.cell? ⟨wr.heap.size, 4, none⟩ = some (.string ⟨sx.toArray⟩) := at_cell (HBX8.out _ (Own.Out.refl _ _)) 4
            clear hG hW hU hx8 hO8 hb8 hG8 hT t0 t4
            go_wp2_with fail
            refine (wrt_calls O8 p8 c8 _ rfl w8 HU8.out (by omega)).mono ?_
            rintro e w9 ⟨rfl, rfl⟩
            cases b8 with
            | true =>
              have HI8 : Hid (Inv nt x8 (mid x8 W (H ++ sx)).1 (mid x8 W (H ++ sx)).2 G8) := Lib.hid (by have := HI8.out; rwa [if_pos rfl] at this)
              go_wp2_with fail
              simp only [Go.Proofs.Ytnkhdpenmekhdaa.Digit.bytes_add, HG8.out]
              have hsz0 := HSZ0.out
              obtain ⟨HH, hHH⟩ : ∃ HH, H ++ sx = HH := ⟨_, rfl⟩
              rw [hHH] at HI8 ⊢
              have lHH := congrArg List.length hHH
              simp only [List.length_append] at lHH
              clear hHH
              refine (state_calls W8.out.mem).mono ?_
              rintro e w9 ⟨rfl, rfl⟩
              rcases HI8.out.st with ⟨e1, e2, e3⟩ | ⟨e1, r1, e3⟩
              · subst e1
                rw [mid_up (show up1.st = 4 from rfl)] at e3
                replace e3 : G8 = W ++ HH := e3
                have HCAT : Hid ((⟨(W).toArray⟩ : ByteArray) ++ ⟨(HH).toArray⟩ = ⟨G8.toArray⟩) := Lib.hid (by rw [Go.Proofs.Ytnkhdpenmekhdaa.Digit.bytes_add, e3])
                have l9 := congrArg List.length e3
                simp only [List.length_append] at l9
                have hcz : (W).length + (HH).length ≤ 4611686018427387904 := by omega
                clear e3
                have HW9 : Hid (WrAt w _ k up1 (q + 1) nt G8 [] G8) := Lib.hid ⟨⟨_, W8.out⟩, .up _, HRN.out, by simp only [List.length_nil]; omega⟩
                have HST := Lib.hid (state_calls W8.out.mem)
                rw [show up1.st = 4 from rfl] at HST ⊢
                have hcut : ∀ V : World, (Instr.sliceAt 9 (.string ⟨G8.toArray⟩) none (some (.int .i64 (G8.length : Int))) none).run Try.prog V = .ok (.string ⟨G8.toArray⟩) V := fun V => by have := cut_pre G8 [] G8.length rfl V; rwa [List.append_nil] at this
                clear HI8 e2 lHH l9
                go_upto_region 30 with (fail)
                rw [HCAT.out]
                go_wp2_with (go_at_call 9; refine HST.out.mono ?_; rintro e w9 ⟨rfl, rfl⟩)
                go_roundw
                case rel => exact ⟨q + 1, nt, up1, G8, [], G8, hlt, by go_num, rfl, rfl, rfl, rfl, HW9⟩
                case measure => simp [Go.RowKit.intOf]; omega
              · have e4 : x8.st ≠ 4 := by omega
                have hI9 := HI8.out
                rw [mid_no e4] at e3 hI9
                replace e3 : W = G8 ++ r1 := e3
                have l9 := congrArg List.length e3
                simp only [List.length_append] at l9
                have HWR : Hid (WrAt w _ k x8 (q + 1) nt W HH G8) := Lib.hid ⟨⟨_, W8.out⟩, hI9, HRN.out, by first | exact Nat.le_trans hsz0 (Nat.mul_le_mul_right _ (Nat.le_succ q)) | omega | (simp only [List.length_nil]; omega)⟩
                have HST := Lib.hid (state_calls W8.out.mem)
                rw [e1] at HST ⊢
                have hcut : ∀ V : World, (Instr.sliceAt 9 (.string ⟨(W).toArray⟩) none (some (.int .i64 (G8.length : Int))) none).run Try.prog V = .ok (.string ⟨G8.toArray⟩) V := fun V => by rw [e3]; exact cut_pre G8 r1 G8.length rfl V
                have z9 : ¬ ((W).length : Int) < (G8.length : Int) := by omega
                clear hI9 e3 e4 e1 HI8 l9 lHH
                go_wp2_with (go_at_call 9; refine HST.out.mono ?_; rintro e w9 ⟨rfl, rfl⟩)
                go_roundw
                case rel => exact ⟨q + 1, nt, x8, W, HH, G8, hlt, by go_num, rfl, rfl, rfl, rfl, HWR⟩
                case measure => simp [Go.RowKit.intOf]; omega
            | false =>
              have HI8 : Hid (Inv nt x8 (mid x8 W H).1 (mid x8 W H).2 G8) := Lib.hid (by have := HI8.out; rwa [if_neg (by simp)] at this)
              go_wp2_with fail
              simp only [Go.Proofs.Ytnkhdpenmekhdaa.Digit.bytes_add, HG8.out]
              have hsz0 := HSZ0.out
              refine (state_calls W8.out.mem).mono ?_
              rintro e w9 ⟨rfl, rfl⟩
              rcases HI8.out.st with ⟨e1, e2, e3⟩ | ⟨e1, r1, e3⟩
              · subst e1
                rw [mid_up (show up1.st = 4 from rfl)] at e3
                replace e3 : G8 = W ++ H := e3
                have HCAT : Hid ((⟨(W).toArray⟩ : ByteArray) ++ ⟨(H).toArray⟩ = ⟨G8.toArray⟩) := Lib.hid (by rw [Go.Proofs.Ytnkhdpenmekhdaa.Digit.bytes_add, e3])
                have l9 := congrArg List.length e3
                simp only [List.length_append] at l9
                have hcz : (W).length + (H).length ≤ 4611686018427387904 := by omega
                clear e3
                have HW9 : Hid (WrAt w _ k up1 (q + 1) nt G8 [] G8) := Lib.hid ⟨⟨_, W8.out⟩, .up _, HRN.out, by simp only [List.length_nil]; omega⟩
                have HST := Lib.hid (state_calls W8.out.mem)
                rw [show up1.st = 4 from rfl] at HST ⊢
                have hcut : ∀ V : World, (Instr.sliceAt 9 (.string ⟨G8.toArray⟩) none (some (.int .i64 (G8.length : Int))) none).run Try.prog V = .ok (.string ⟨G8.toArray⟩) V := fun V => by have := cut_pre G8 [] G8.length rfl V; rwa [List.append_nil] at this
                clear HI8 e2 l9
                go_upto_region 30 with (fail)
                rw [HCAT.out]
                go_wp2_with (go_at_call 9; refine HST.out.mono ?_; rintro e w9 ⟨rfl, rfl⟩)
                go_roundw
                case rel => exact ⟨q + 1, nt, up1, G8, [], G8, hlt, by go_num, rfl, rfl, rfl, rfl, HW9⟩
                case measure => simp [Go.RowKit.intOf]; omega
              · have e4 : x8.st ≠ 4 := by omega
                have hI9 := HI8.out
                rw [mid_no e4] at e3 hI9
                replace e3 : W = G8 ++ r1 := e3
                have l9 := congrArg List.length e3
                simp only [List.length_append] at l9
                have HWR : Hid (WrAt w _ k x8 (q + 1) nt W H G8) := Lib.hid ⟨⟨_, W8.out⟩, hI9, HRN.out, by first | exact Nat.le_trans hsz0 (Nat.mul_le_mul_right _ (Nat.le_succ q)) | omega | (simp only [List.length_nil]; omega)⟩
                have HST := Lib.hid (state_calls W8.out.mem)
                rw [e1] at HST ⊢
                have hcut : ∀ V : World, (Instr.sliceAt 9 (.string ⟨(W).toArray⟩) none (some (.int .i64 (G8.length : Int))) none).run Try.prog V = .ok (.string ⟨G8.toArray⟩) V := fun V => by rw [e3]; exact cut_pre G8 r1 G8.length rfl V
                have z9 : ¬ ((W).length : Int) < (G8.length : Int) := by omega
                clear hI9 e3 e4 e1 HI8 l9
                go_wp2_with (go_at_call 9; refine HST.out.mono ?_; rintro e w9 ⟨rfl, rfl⟩)
                go_roundw
                case rel => exact ⟨q + 1, nt, x8, W, H, G8, hlt, by go_num, rfl, rfl, rfl, rfl, HWR⟩
                case measure => simp [Go.RowKit.intOf]; omega
          · have hkb : (ak % 2 == 0) = false := by simpa using hk
            clear hk
            have t0 : w6.cell? ⟨wr.heap.size, 0, none⟩ = some (.int .u8 ak) := at_cell (HBX5.out _ (Own.Out.refl _ _)) 0
            have t5 : w6.cell? ⟨wr.heap.size, 5, none⟩ = some (.slice aq an ac) := at_cell (HBX5.out _ (Own.Out.refl _ _)) 5
            obtain ⟨x8, hx8⟩ : ∃ x8, brkL x5 nt aL = x8 := ⟨_, rfl⟩
            obtain ⟨O8, hO8⟩ : ∃ O8, brkO x5 nt aL = O8 := ⟨_, rfl⟩
            obtain ⟨d8, hd8⟩ : ∃ d8, brkC x5 nt aL = d8 := ⟨_, rfl⟩
            have HI8 := Lib.hid (HI2.out.break_ aL (by have := HLEN.out; omega))
            rw [hx8, hO8, hd8] at HI8
            have hby : (byt aL).length ≤ 1688849860263924 := by
              have h1 := byt_le aL 140737488355327 HFEW.out
              have h2 := HLEN.out
              have h3 : aL.length * 140737488355327 ≤ 12 * 140737488355327 := Nat.mul_le_mul_right _ (by omega)
              omega
            go_wp2_with fail
            refine (break_calls nt aL an HLEN.out (by omega) aq ac (HOPS.out.below W5.out.below) W5.out.mem).mono ?_
            rintro e w8 ⟨v8, rfl, hG⟩
            obtain ⟨S8, p8, c8, e, hW, hT, hU⟩ := W5.out.gives hG hx8 hO8
            have HBX8 := Lib.hid (hT.stays HBX5.out)
            cases e
            rw [hd8]
            have W8 := Lib.hid hW
            have HU8 := Lib.hid (hU _ (Own.Out.refl _ _))
            obtain ⟨G8, hG8⟩ : ∃ G8, G5 ++ wb O8 = G8 := ⟨_, rfl⟩
            rw [hG8] at HI8
            have HG8 := Lib.hid hG8
            have hg8 : G8.length ≤ 135107988821114880 + 1688849860263924 := by
              have h1 := got_le HI8.out
              have h2 := ite_len (d8 = 0) W (byt aL)
              have h3 : ([] : List UInt8).length = 0 := rfl
              omega
            have hg9 : G5.length + (wb O8).length ≤ 135107988821114880 + 1688849860263924 := by rw [← hG8, List.length_append] at hg8; exact hg8
            have HOP8 := Lib.hid (HOPS.out.below W8.out.below)
            have y5 : w8.cell? ⟨wr.heap.size, 5, none⟩ = some (.slice aq an ac) := at_cell (HBX8.out _ (Own.Out.refl _ _)) 5
            clear hG hW hU hx8 hO8 hd8 hG8 hT t0 t5
            go_wp2_with fail
            refine (wrt_calls O8 p8 c8 _ rfl w8 HU8.out (by omega)).mono ?_
            rintro e w9 ⟨rfl, rfl⟩
            by_cases h0 : d8 = 0
            · have h0b : (d8 == 0) = true := by simpa using h0
              obtain ⟨B8, hB8⟩ : ∃ B8, byt aL = B8 := ⟨_, rfl⟩
              rw [hB8] at HI8 hby
              have HI8 : Hid (Inv nt x8 (mid x8 (W ++ B8) H).1 (mid x8 (W ++ B8) H).2 G8) := Lib.hid (by have := HI8.out; rwa [if_pos h0] at this)
              have HRB := Lib.hid (rbytes_any aL aq ac an HLEN.out _ HOP8.out (by rw [hB8]; omega))
              rw [hB8] at HRB
              clear h0 hB8
              go_wp2_with fail
              refine HRB.out.mono ?_
              rintro e w10 ⟨rfl, rfl⟩
              go_wp2_with fail
              simp only [Go.Proofs.Ytnkhdpenmekhdaa.Digit.bytes_add, HG8.out]
              have hsz0 := HSZ0.out
              obtain ⟨WW, hWW⟩ : ∃ WW, W ++ B8 = WW := ⟨_, rfl⟩
              rw [hWW] at HI8 ⊢
              have lWW := congrArg List.length hWW
              simp only [List.length_append] at lWW
              clear hWW
              refine (state_calls W8.out.mem).mono ?_
              rintro e w9 ⟨rfl, rfl⟩
              rcases HI8.out.st with ⟨e1, e2, e3⟩ | ⟨e1, r1, e3⟩
              · subst e1
                rw [mid_up (show up1.st = 4 from rfl)] at e3
                replace e3 : G8 = WW ++ H := e3
                have HCAT : Hid ((⟨(WW).toArray⟩ : ByteArray) ++ ⟨(H).toArray⟩ = ⟨G8.toArray⟩) := Lib.hid (by rw [Go.Proofs.Ytnkhdpenmekhdaa.Digit.bytes_add, e3])
                have l9 := congrArg List.length e3
                simp only [List.length_append] at l9
                have hcz : (WW).length + (H).length ≤ 4611686018427387904 := by omega
                clear e3
                have HW9 : Hid (WrAt w _ k up1 (q + 1) nt G8 [] G8) := Lib.hid ⟨⟨_, W8.out⟩, .up _, HRN.out, by simp only [List.length_nil]; omega⟩
                have HST := Lib.hid (state_calls W8.out.mem)
                rw [show up1.st = 4 from rfl] at HST ⊢
                have hcut : ∀ V : World, (Instr.sliceAt 9 (.string ⟨G8.toArray⟩) none (some (.int .i64 (G8.length : Int))) none).run Try.prog V = .ok (.string ⟨G8.toArray⟩) V := fun V => by have := cut_pre G8 [] G8.length rfl V; rwa [List.append_nil] at this
                clear HI8 e2 lWW l9
                go_upto_region 30 with (fail)
                rw [HCAT.out]
                go_wp2_with (go_at_call 9; refine HST.out.mono ?_; rintro e w9 ⟨rfl, rfl⟩)
                go_roundw
                case rel => exact ⟨q + 1, nt, up1, G8, [], G8, hlt, by go_num, rfl, rfl, rfl, rfl, HW9⟩
                case measure => simp [Go.RowKit.intOf]; omega
              · have e4 : x8.st ≠ 4 := by omega
                have hI9 := HI8.out
                rw [mid_no e4] at e3 hI9
                replace e3 : WW = G8 ++ r1 := e3
                have l9 := congrArg List.length e3
                simp only [List.length_append] at l9
                have HWR : Hid (WrAt w _ k x8 (q + 1) nt WW H G8) := Lib.hid ⟨⟨_, W8.out⟩, hI9, HRN.out, by first | exact Nat.le_trans hsz0 (Nat.mul_le_mul_right _ (Nat.le_succ q)) | omega | (simp only [List.length_nil]; omega)⟩
                have HST := Lib.hid (state_calls W8.out.mem)
                rw [e1] at HST ⊢
                have hcut : ∀ V : World, (Instr.sliceAt 9 (.string ⟨(WW).toArray⟩) none (some (.int .i64 (G8.length : Int))) none).run Try.prog V = .ok (.string ⟨G8.toArray⟩) V := fun V => by rw [e3]; exact cut_pre G8 r1 G8.length rfl V
                have z9 : ¬ ((WW).length : Int) < (G8.length : Int) := by omega
                clear hI9 e3 e4 e1 HI8 l9 lWW
                go_wp2_with (go_at_call 9; refine HST.out.mono ?_; rintro e w9 ⟨rfl, rfl⟩)
                go_roundw
                case rel => exact ⟨q + 1, nt, x8, WW, H, G8, hlt, by go_num, rfl, rfl, rfl, rfl, HWR⟩
                case measure => simp [Go.RowKit.intOf]; omega
            · have h0b : (d8 == 0) = false := by simpa using h0
              have HI8 : Hid (Inv nt x8 (mid x8 W H).1 (mid x8 W H).2 G8) := Lib.hid (by have := HI8.out; rwa [if_neg h0] at this)
              clear h0
              go_wp2_with fail
              simp only [Go.Proofs.Ytnkhdpenmekhdaa.Digit.bytes_add, HG8.out]
              have hsz0 := HSZ0.out
              refine (state_calls W8.out.mem).mono ?_
              rintro e w9 ⟨rfl, rfl⟩
              rcases HI8.out.st with ⟨e1, e2, e3⟩ | ⟨e1, r1, e3⟩
              · subst e1
                rw [mid_up (show up1.st = 4 from rfl)] at e3
                replace e3 : G8 = W ++ H := e3
                have HCAT : Hid ((⟨(W).toArray⟩ : ByteArray) ++ ⟨(H).toArray⟩ = ⟨G8.toArray⟩) := Lib.hid (by rw [Go.Proofs.Ytnkhdpenmekhdaa.Digit.bytes_add, e3])
                have l9 := congrArg List.length e3
                simp only [List.length_append] at l9
                have hcz : (W).length + (H).length ≤ 4611686018427387904 := by omega
                clear e3
                have HW9 : Hid (WrAt w _ k up1 (q + 1) nt G8 [] G8) := Lib.hid ⟨⟨_, W8.out⟩, .up _, HRN.out, by simp only [List.length_nil]; omega⟩
                have HST := Lib.hid (state_calls W8.out.mem)
                rw [show up1.st = 4 from rfl] at HST ⊢
                have hcut : ∀ V : World, (Instr.sliceAt 9 (.string ⟨G8.toArray⟩) none (some (.int .i64 (G8.length : Int))) none).run Try.prog V = .ok (.string ⟨G8.toArray⟩) V := fun V => by have := cut_pre G8 [] G8.length rfl V; rwa [List.append_nil] at this
                clear HI8 e2 l9
                go_upto_region 30 with (fail)
                rw [HCAT.out]
                go_wp2_with (go_at_call 9; refine HST.out.mono ?_; rintro e w9 ⟨rfl, rfl⟩)
                go_roundw
                case rel => exact ⟨q + 1, nt, up1, G8, [], G8, hlt, by go_num, rfl, rfl, rfl, rfl, HW9⟩
                case measure => simp [Go.RowKit.intOf]; omega
              · have e4 : x8.st ≠ 4 := by omega
                have hI9 := HI8.out
                rw [mid_no e4] at e3 hI9
                replace e3 : W = G8 ++ r1 := e3
                have l9 := congrArg List.length e3
                simp only [List.length_append] at l9
                have HWR : Hid (WrAt w _ k x8 (q + 1) nt W H G8) := Lib.hid ⟨⟨_, W8.out⟩, hI9, HRN.out, by first | exact Nat.le_trans hsz0 (Nat.mul_le_mul_right _ (Nat.le_succ q)) | omega | (simp only [List.length_nil]; omega)⟩
                have HST := Lib.hid (state_calls W8.out.mem)
                rw [e1] at HST ⊢
                have hcut : ∀ V : World, (Instr.sliceAt 9 (.string ⟨(W).toArray⟩) none (some (.int .i64 (G8.length : Int))) none).run Try.prog V = .ok (.string ⟨G8.toArray⟩) V := fun V => by rw [e3]; exact cut_pre G8 r1 G8.length rfl V
                have z9 : ¬ ((W).length : Int) < (G8.length : Int) := by omega
                clear hI9 e3 e4 e1 HI8 l9
                go_wp2_with (go_at_call 9; refine HST.out.mono ?_; rintro e w9 ⟨rfl, rfl⟩)
                go_roundw
                case rel => exact ⟨q + 1, nt, x8, W, H, G8, hlt, by go_num, rfl, rfl, rfl, rfl, HWR⟩
                case measure => simp [Go.RowKit.intOf]; omega
    · go_wp2_with (go_at_call 6; refine (works_calls _).mono ?_; rintro e w' ⟨rfl, hw⟩)
      go_ret
      obtain ⟨S, hWX⟩ := HA.out.ex
      exact ⟨rfl, hWX.below.trans (hw.mono hWX.below.size)⟩
end Go.Proofs.Ytnkhdpenmekhdaa.Lin
end


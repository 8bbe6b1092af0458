/-
  Layer 20 (mark): the document's own, walked.
-/
import Derived.Test.YtbjlnaobmgbpfaaDoorMrkAll
import Derived.Test.YtbjlnaobmgbpfaaDoorClockRefS
import Derived.Test.YtbjlnaobmgbpfaaDoorSignR
namespace Go.Proofs.YtbjlnaobmgbpfaaDoor.Mark
open Go.RowKit Go.Proofs.YtbjlnaobmgbpfaaDoor.Own Go.Proofs.YtbjlnaobmgbpfaaDoor.Rw Go.Proofs.YtbjlnaobmgbpfaaDoor.Rec Go.Proofs.YtbjlnaobmgbpfaaDoor.Bld Go.Proofs.YtbjlnaobmgbpfaaDoor.Digit Go.Proofs.YtbjlnaobmgbpfaaDoor.Clock

set_option maxHeartbeats 400000 in
theorem rstamp_calls' (n : Int) (w : World) :
    Calls Tryd.prog 18 #[.int .i64 n] w fun e w' => e = .returned (.string ⟨(st n).toArray⟩) ∧ w = w' := by
  have hl := stmp_le n
  go_enter Tryd.func18, Tryd.ntmps18
  go_wp2_with (go_at_call 24; refine (rstamp_calls n _).mono ?_; rintro e w1 ⟨rfl, rfl⟩)
  go_ret
  exact ⟨ret_string (by simp only [bytes_add]; rfl), rfl⟩

theorem ret_bool {a b : Bool} (h : a = b) : Ending.returned (.bool a) = .returned (.bool b) := by rw [h]
theorem ne10 (c : UInt8) : (c != 10) = ((c.toNat : Int) != 10) := by
  by_cases h : c = 10
  · subst h; rfl
  · have h2 : ¬ (c.toNat : Int) = 10 := fun e => h (UInt8.toNat_inj.1 (by show c.toNat = 10; omega))
    have a : (c != 10) = true := by simpa using h
    have b : ((c.toNat : Int) != 10) = true := by simpa using h2
    rw [a, b]
theorem opn_last (s : ByteArray) (m : Nat) (h : s.size = m + 1) (hlt : m < s.size) : opn false s.data.toList = (s[m] != 10) := by
  have h1 : m < s.data.toList.length := hlt
  have e : s.data.toList = s.data.toList.take m ++ [s[m]] := by
    have := take_next h1
    rw [List.take_of_length_le (by have : s.data.toList.length = s.size := rfl; omega)] at this
    exact this
  rw [e, opn_snoc]
theorem opn_empty (s : ByteArray) (h : s.size = 0) : s = ⟨#[]⟩ := ByteArray.ext (Array.eq_empty_of_size_eq_zero h)

set_option maxRecDepth 100000 in
theorem rbegun_calls (s : ByteArray) (hs : s.size ≤ 4611686018427387904) (w : World) :
    Calls Tryd.prog 17 #[.string s] w fun e w' => e = .returned (.bool (opn false s.data.toList)) ∧ w = w' := by
  by_cases h0 : s.size = 0
  · obtain rfl := opn_empty s h0
    go_enter Tryd.func17, Tryd.ntmps17
    go_wp2_with fail
    go_ret
    exact ⟨rfl, rfl⟩
  · obtain ⟨m, hm⟩ : ∃ m, s.size = m + 1 := ⟨s.size - 1, by omega⟩
    have hlt : m < s.size := by omega
    have HO := Lib.hid (opn_last s m hm hlt)
    have hne2 : (s.toList != []) = true := by
      cases h : s.toList with
      | nil => exfalso; rw [ByteArray.toList_eq] at h; apply h0; show s.data.size = 0; rw [← Array.length_toList, h]; rfl
      | cons a b => rfl
    have hne : s.toList.isEmpty = false := by
      cases h : s.toList with
      | nil => rw [h] at hne2; cases hne2
      | cons a r => rfl
    have e1 : (s.size : Int) - 1 = (m : Int) := by omega
    go_enter Tryd.func17, Tryd.ntmps17
    go_wp2_with fail
    all_goals first | (exfalso; rename_i hz; rw [hz] at hne; cases hne) | (go_ret; exact ⟨ret_bool (by rw [HO.out, ne10]), rfl⟩)
theorem rbegun_list (t : List UInt8) (ht : t.length ≤ 4611686018427387904) (w : World) :
    Calls Tryd.prog 17 #[.string ⟨t.toArray⟩] w fun e w' => e = .returned (.bool (opn false t)) ∧ w = w' :=
  rbegun_calls ⟨t.toArray⟩ (by show t.toArray.size ≤ _; rw [List.size_toArray]; exact ht) w

theorem cat_text (a b : List UInt8) : (⟨a.toArray⟩ : ByteArray) ++ ⟨b.toArray⟩ = ⟨(a ++ b).toArray⟩ := bytes_add a b
theorem one_text (s : ByteArray) (k : Nat) (hk : k < s.size) : s.extract k (k + 1) = ⟨[s[k]].toArray⟩ := by
  rw [seg_text s k k (Nat.le_refl _) hk, List.drop_of_length_le (by rw [List.length_take]; omega)]; rfl

set_option maxRecDepth 100000 in
set_option maxHeartbeats 8000000 in
theorem rall_calls (xs : List Itm) (p : Option Addr) (c n : Nat) (hn : xs.length = n) (w : World) (h : Its w xs p c) (hx : ∀ x ∈ xs, x.b.size ≤ 100000) (ht : Mark.tot xs ≤ 1000000000000) :
    Calls Tryd.prog 9 #[.slice p n c] w (TextPost (txt false xs) w) := by
  have hcap := h.cap
  have hmax := h.max
  unfold maxLen at hmax
  rw [hn] at hcap
  have q2 : (n : Int) ≤ 9223372036854775807 := by omega
  have HI := Lib.hid h
  have HN := Lib.hid hn
  have HX := Lib.hid hx
  have HT := Lib.hid ht
  clear h hn hx ht
  go_enter Tryd.func9, Tryd.ntmps9
  go_wp2_with fail
  go_loopw [3, 4] (fun sv i wr => ∃ k : Nat, k ≤ n ∧ i = .int .i64 k ∧ sv = .string ⟨(txt false (xs.take k)).toArray⟩ ∧ Below w.heap.size w wr) (fun _ i _ => n - (intOf i).toNat)
  case atStart => exact ⟨0, Nat.zero_le _, rfl, rfl, Below.refl _ _⟩
  case round =>
    obtain ⟨k, hkn, rfl, rfl, hB⟩ := hrel
    have HB := Lib.hid hB
    have hsz := hB.size
    rcases Nat.lt_or_eq_of_le hkn with hlt | rfl
    · have q1 : (k : Int) < (n : Int) := by omega
      have hk : k < xs.length := by rw [HN.out]; exact hlt
      obtain ⟨b, o, rfl, hb, c0, c1, c2⟩ := Its.at_ HI.out hk
      rw [← hB.cell (p := ⟨b, _, none⟩) hb] at c0 c1 c2
      have hbw : b < wr.heap.size := Nat.lt_of_lt_of_le hb hsz
      have HX1 := HX.out xs[k] (List.getElem_mem hk)
      have HL : (txt false (xs.take k)).length ≤ 1000000000000 := Nat.le_trans (txt_take_le _ _ _) HT.out
      have NT := Lib.hid (txt_next false hk)
      have OT := Lib.hid (opn_txt false (xs.take k))
      generalize xs[k] = x at *
      obtain ⟨xk, xa, xb⟩ := x
      simp only at c0 c1 c2 HX1
      generalize txt false (xs.take k) = T at *
      generalize fin false (xs.take k) = oo at *
      clear hB
      have hst := st_le xa
      by_cases k1 : xk = 1
      · subst k1
        have hbl : xb.data.toList.length = xb.size := rfl
        have NT1 := Lib.hid (NT.out.trans (by rw [itT_1 rfl]))
        have HBL := Lib.hid hbl
        have B1 := Lib.hid (HB.out.alloc hsz (.cells #[.int .i64 1, .int .i64 xa, .string xb] 28 (0, 0)))
        clear NT hbl
        go_wp2_with fail
        go_loop [3, 6] (fun sv jv => ∃ j : Nat, j ≤ xb.size ∧ jv = .int .i64 j ∧ sv = .string ⟨(T ++ dat oo (st xa) (xb.data.toList.take j)).toArray⟩) (fun _ jv => xb.size - (intOf jv).toNat)
        case atStart => exact ⟨0, Nat.zero_le _, rfl, by simp [dat]⟩
        case round =>
          obtain ⟨j, hj, rfl, rfl⟩ := hrel
          rcases Nat.lt_or_eq_of_le hj with hjl | rfl
          · have q3 : (j : Int) < (xb.size : Int) := by omega
            have hj1 : j < xb.data.toList.length := hjl
            have ST := Lib.hid (one_text xb j hjl)
            have DS := dat_snoc oo (st xa) (xb.data.toList.take j) xb.data.toList[j]
            rw [← take_next hj1] at DS
            have OD := opn_dat oo (st xa) (xb.data.toList.take j)
            have dl := dat_le oo (st xa) (xb.data.toList.take j)
            have dl2 : (dat oo (st xa) (xb.data.toList.take j)).length ≤ 100000 * 23 := by
              rw [List.length_take] at dl
              exact Nat.le_trans dl (Nat.mul_le_mul (by omega) (by omega))
            have OA := opn_app false T (dat oo (st xa) (xb.data.toList.take j))
            rw [OT.out, OD] at OA
            obtain ⟨cc, hcc⟩ : ∃ cc, xb[j] = cc := ⟨_, rfl⟩
            rw [show xb.data.toList[j] = cc from hcc] at DS
            rw [hcc] at ST
            have HDS := Lib.hid DS
            have HOA := Lib.hid OA
            clear dl DS OD OA hcc
            generalize dat oo (st xa) (xb.data.toList.take j) = D at *
            generalize opn oo (xb.data.toList.take j) = q at *
            have hTD : (T ++ D).length ≤ 2000000000000 := by rw [List.length_append]; omega
            obtain ⟨U, hU⟩ : ∃ U, T ++ D = U := ⟨_, rfl⟩
            rw [hU] at hTD HOA ⊢
            have HU := Lib.hid hU
            clear hU
            cases q with
            | true =>
              go_wp2_with fail
              refine (rbegun_list U (by omega) _).mono ?_
              rintro e w5 ⟨rfl, rfl⟩
              rw [HOA.out]
              go_wp2_with fail
              rw [ST.out]
              go_wp2_with fail
              go_round
              case rel => exact ⟨j + 1, by omega, by go_num, by rw [HDS.out, cat_text, ← HU.out]; simp⟩
              case measure => simp [intOf]; omega
            | false =>
              go_wp2_with fail
              refine (rbegun_list U (by omega) _).mono ?_
              rintro e w5 ⟨rfl, rfl⟩
              rw [HOA.out]
              go_wp2_with fail
              refine (rstamp_calls' xa _).mono ?_
              rintro e w5 ⟨rfl, rfl⟩
              go_wp2_with fail
              rw [ST.out]
              go_wp2_with fail
              go_round
              case rel => exact ⟨j + 1, by omega, by go_num, by rw [HDS.out, cat_text, cat_text, ← HU.out]; simp⟩
              case measure => simp [intOf]; omega
          · rw [List.take_of_length_le (Nat.le_of_eq HBL.out), ← NT1.out]
            go_wp2_with fail
            go_roundw
            case rel => exact ⟨k + 1, by omega, by go_num, rfl, B1.out⟩
            case measure => simp [intOf]; omega
      by_cases k2 : xk = 2
      · subst k2
        have hs4 := shw_len xb.data.toList
        rw [show xb.data.toList.length = xb.size from rfl] at hs4
        have NT1 := Lib.hid (NT.out.trans (by rw [itT_2 rfl]))
        have hbox := at_new wr (.cells #[.int .i64 2, .int .i64 xa, .string xb] 28 (0, 0))
        have lx := at_lt hbox
        obtain ⟨y0, y1, y2⟩ := box3 hbox
        have B1 := Lib.hid (HB.out.alloc hsz (.cells #[.int .i64 2, .int .i64 xa, .string xb] 28 (0, 0)))
        have HB1s := Lib.hid B1.out.size
        clear NT hbox
        cases oo with
        | true =>
          go_wp2_with fail
          refine (rbegun_list T (by omega) _).mono ?_
          rintro e w5 ⟨rfl, rfl⟩
          rw [OT.out]
          go_wp2_with fail
          have hTU : (T ++ [10]).length ≤ 1000000000001 := by rw [List.length_append]; simp; omega
          rw [show (⟨T.toArray⟩ : ByteArray) ++ ⟨#[10]⟩ = ⟨(T ++ [10]).toArray⟩ from cat_text T [10]]
          generalize hU : T ++ [10] = U at *
          have HU := Lib.hid hU
          clear hU OT
          generalize wr.alloc (.cells #[.int .i64 2, .int .i64 xa, .string xb] 28 (0, 0)) = W at *
          generalize wr.heap.size = bx at *
          have z1 : ¬ 9223372036854775807 < U.length + (st xa).length := by omega
          have z2 : ¬ 9223372036854775807 < U.length + (st xa).length + 3 := by omega
          have z3 : ¬ 9223372036854775807 < U.length + (st xa).length + 3 + (shw xb.data.toList).length := by omega
          go_cut [3] (fun sv wx => sv = .string ⟨(U ++ st xa ++ [45, 45, 32] ++ shw xb.data.toList).toArray⟩ ∧ Below W.heap.size W wx)
          case first =>
            go_region_held3 (fun w' => w'.cell? ⟨bx, 1, none⟩ = some (.int .i64 xa) ∧ w'.cell? ⟨bx, 2, none⟩ = some (.string xb) ∧ Below W.heap.size W w')
              (first
                | exact ⟨y1, y2, ⟨rfl, rfl, rfl, Nat.le_refl _, fun _ _ => rfl⟩⟩
                | exact ⟨(hb5.cell (p := ⟨bx, 1, none⟩) lx).trans y1, (hb5.cell (p := ⟨bx, 2, none⟩) lx).trans y2, ⟨hb5.os, hb5.tape, hb5.output, hb5.size, hb5.block⟩⟩)
              (first
                | (go_at_call 18; refine (rstamp_calls' xa _).mono ?_; rintro e w6 ⟨rfl, rfl⟩)
                | (go_at_call 19; refine (rshow_calls xb HX1 _).mono ?_; rintro e w5 ⟨rfl, hb5⟩))
            all_goals
              go_wp2_with fail
              go_meet
              exact ⟨by first | rfl | (simp only [cat_text]), ⟨hb5.os, hb5.tape, hb5.output, hb5.size, hb5.block⟩⟩
          case rest =>
            obtain ⟨rfl, hb6⟩ := hcut
            have z0 := (hb6.cell (p := ⟨bx, 0, none⟩) lx).trans y0
            have B6 := Lib.hid (B1.out.trans (hb6.mono B1.out.size))
            have hV : (U ++ st xa ++ [45, 45, 32] ++ shw xb.data.toList).length ≤ 2000000000000 := by simp only [List.length_append, List.length_cons, List.length_nil]; omega
            generalize hVV : U ++ st xa ++ [45, 45, 32] ++ shw xb.data.toList = V at *
            have HV := Lib.hid hVV
            clear hVV hb6 y0 y1 y2
            go_wp2_with fail
            go_roundw
            case rel => exact ⟨k + 1, by omega, by go_num, by rw [NT1.out, ← HV.out, ← HU.out]; simp only [cat_text]; simp [lin, noteB], B6.out⟩
            case measure => simp [intOf]; omega
        | false =>
          go_wp2_with fail
          refine (rbegun_list T (by omega) _).mono ?_
          rintro e w5 ⟨rfl, rfl⟩
          rw [OT.out]
          go_wp2_with fail
          have hTU : T.length ≤ 1000000000001 := by omega
          generalize hU : T = U at *
          have HU := Lib.hid hU
          clear hU OT
          generalize wr.alloc (.cells #[.int .i64 2, .int .i64 xa, .string xb] 28 (0, 0)) = W at *
          generalize wr.heap.size = bx at *
          have z1 : ¬ 9223372036854775807 < U.length + (st xa).length := by omega
          have z2 : ¬ 9223372036854775807 < U.length + (st xa).length + 3 := by omega
          have z3 : ¬ 9223372036854775807 < U.length + (st xa).length + 3 + (shw xb.data.toList).length := by omega
          go_cut [3] (fun sv wx => sv = .string ⟨(U ++ st xa ++ [45, 45, 32] ++ shw xb.data.toList).toArray⟩ ∧ Below W.heap.size W wx)
          case first =>
            go_region_held3 (fun w' => w'.cell? ⟨bx, 1, none⟩ = some (.int .i64 xa) ∧ w'.cell? ⟨bx, 2, none⟩ = some (.string xb) ∧ Below W.heap.size W w')
              (first
                | exact ⟨y1, y2, ⟨rfl, rfl, rfl, Nat.le_refl _, fun _ _ => rfl⟩⟩
                | exact ⟨(hb5.cell (p := ⟨bx, 1, none⟩) lx).trans y1, (hb5.cell (p := ⟨bx, 2, none⟩) lx).trans y2, ⟨hb5.os, hb5.tape, hb5.output, hb5.size, hb5.block⟩⟩)
              (first
                | (go_at_call 18; refine (rstamp_calls' xa _).mono ?_; rintro e w6 ⟨rfl, rfl⟩)
                | (go_at_call 19; refine (rshow_calls xb HX1 _).mono ?_; rintro e w5 ⟨rfl, hb5⟩))
            all_goals
              go_wp2_with fail
              go_meet
              exact ⟨by first | rfl | (simp only [cat_text]), ⟨hb5.os, hb5.tape, hb5.output, hb5.size, hb5.block⟩⟩
          case rest =>
            obtain ⟨rfl, hb6⟩ := hcut
            have z0 := (hb6.cell (p := ⟨bx, 0, none⟩) lx).trans y0
            have B6 := Lib.hid (B1.out.trans (hb6.mono B1.out.size))
            have hV : (U ++ st xa ++ [45, 45, 32] ++ shw xb.data.toList).length ≤ 2000000000000 := by simp only [List.length_append, List.length_cons, List.length_nil]; omega
            generalize hVV : U ++ st xa ++ [45, 45, 32] ++ shw xb.data.toList = V at *
            have HV := Lib.hid hVV
            clear hVV hb6 y0 y1 y2
            go_wp2_with fail
            go_roundw
            case rel => exact ⟨k + 1, by omega, by go_num, by rw [NT1.out, ← HV.out, ← HU.out]; simp only [cat_text]; simp [lin, noteB], B6.out⟩
            case measure => simp [intOf]; omega
      by_cases k3 : xk = 3
      · subst k3
        have hs4 := shw_len xb.data.toList
        rw [show xb.data.toList.length = xb.size from rfl] at hs4
        have NT1 := Lib.hid (NT.out.trans (by rw [itT_3 rfl]))
        have hbox := at_new wr (.cells #[.int .i64 3, .int .i64 xa, .string xb] 28 (0, 0))
        have lx := at_lt hbox
        obtain ⟨y0, y1, y2⟩ := box3 hbox
        have B1 := Lib.hid (HB.out.alloc hsz (.cells #[.int .i64 3, .int .i64 xa, .string xb] 28 (0, 0)))
        have HB1s := Lib.hid B1.out.size
        clear NT hbox
        cases oo with
        | true =>
          go_wp2_with fail
          refine (rbegun_list T (by omega) _).mono ?_
          rintro e w5 ⟨rfl, rfl⟩
          rw [OT.out]
          go_wp2_with fail
          have hTU : (T ++ [10]).length ≤ 1000000000001 := by rw [List.length_append]; simp; omega
          rw [show (⟨T.toArray⟩ : ByteArray) ++ ⟨#[10]⟩ = ⟨(T ++ [10]).toArray⟩ from cat_text T [10]]
          generalize hU : T ++ [10] = U at *
          have HU := Lib.hid hU
          clear hU OT
          generalize wr.alloc (.cells #[.int .i64 3, .int .i64 xa, .string xb] 28 (0, 0)) = W at *
          generalize wr.heap.size = bx at *
          have z1 : ¬ 9223372036854775807 < U.length + (st xa).length := by omega
          have z2 : ¬ 9223372036854775807 < U.length + (st xa).length + 3 := by omega
          have z3 : ¬ 9223372036854775807 < U.length + (st xa).length + 3 + (shw xb.data.toList).length := by omega
          go_cut [3] (fun sv wx => sv = .string ⟨(U ++ st xa ++ [45, 45, 32] ++ shw xb.data.toList).toArray⟩ ∧ Below W.heap.size W wx)
          case first =>
            go_region_held3 (fun w' => w'.cell? ⟨bx, 1, none⟩ = some (.int .i64 xa) ∧ w'.cell? ⟨bx, 2, none⟩ = some (.string xb) ∧ Below W.heap.size W w')
              (first
                | exact ⟨y1, y2, ⟨rfl, rfl, rfl, Nat.le_refl _, fun _ _ => rfl⟩⟩
                | exact ⟨(hb5.cell (p := ⟨bx, 1, none⟩) lx).trans y1, (hb5.cell (p := ⟨bx, 2, none⟩) lx).trans y2, ⟨hb5.os, hb5.tape, hb5.output, hb5.size, hb5.block⟩⟩)
              (first
                | (go_at_call 18; refine (rstamp_calls' xa _).mono ?_; rintro e w6 ⟨rfl, rfl⟩)
                | (go_at_call 19; refine (rshow_calls xb HX1 _).mono ?_; rintro e w5 ⟨rfl, hb5⟩))
            all_goals
              go_wp2_with fail
              go_meet
              exact ⟨by first | rfl | (simp only [cat_text]), ⟨hb5.os, hb5.tape, hb5.output, hb5.size, hb5.block⟩⟩
          case rest =>
            obtain ⟨rfl, hb6⟩ := hcut
            have z0 := (hb6.cell (p := ⟨bx, 0, none⟩) lx).trans y0
            have B6 := Lib.hid (B1.out.trans (hb6.mono B1.out.size))
            have hV : (U ++ st xa ++ [45, 45, 32] ++ shw xb.data.toList).length ≤ 2000000000000 := by simp only [List.length_append, List.length_cons, List.length_nil]; omega
            generalize hVV : U ++ st xa ++ [45, 45, 32] ++ shw xb.data.toList = V at *
            have HV := Lib.hid hVV
            clear hVV hb6 y0 y1 y2
            go_wp2_with fail
            go_roundw
            case rel => exact ⟨k + 1, by omega, by go_num, by rw [NT1.out, ← HV.out, ← HU.out]; simp only [cat_text]; simp [lin, gapB], B6.out⟩
            case measure => simp [intOf]; omega
        | false =>
          go_wp2_with fail
          refine (rbegun_list T (by omega) _).mono ?_
          rintro e w5 ⟨rfl, rfl⟩
          rw [OT.out]
          go_wp2_with fail
          have hTU : T.length ≤ 1000000000001 := by omega
          generalize hU : T = U at *
          have HU := Lib.hid hU
          clear hU OT
          generalize wr.alloc (.cells #[.int .i64 3, .int .i64 xa, .string xb] 28 (0, 0)) = W at *
          generalize wr.heap.size = bx at *
          have z1 : ¬ 9223372036854775807 < U.length + (st xa).length := by omega
          have z2 : ¬ 9223372036854775807 < U.length + (st xa).length + 3 := by omega
          have z3 : ¬ 9223372036854775807 < U.length + (st xa).length + 3 + (shw xb.data.toList).length := by omega
          go_cut [3] (fun sv wx => sv = .string ⟨(U ++ st xa ++ [45, 45, 32] ++ shw xb.data.toList).toArray⟩ ∧ Below W.heap.size W wx)
          case first =>
            go_region_held3 (fun w' => w'.cell? ⟨bx, 1, none⟩ = some (.int .i64 xa) ∧ w'.cell? ⟨bx, 2, none⟩ = some (.string xb) ∧ Below W.heap.size W w')
              (first
                | exact ⟨y1, y2, ⟨rfl, rfl, rfl, Nat.le_refl _, fun _ _ => rfl⟩⟩
                | exact ⟨(hb5.cell (p := ⟨bx, 1, none⟩) lx).trans y1, (hb5.cell (p := ⟨bx, 2, none⟩) lx).trans y2, ⟨hb5.os, hb5.tape, hb5.output, hb5.size, hb5.block⟩⟩)
              (first
                | (go_at_call 18; refine (rstamp_calls' xa _).mono ?_; rintro e w6 ⟨rfl, rfl⟩)
                | (go_at_call 19; refine (rshow_calls xb HX1 _).mono ?_; rintro e w5 ⟨rfl, hb5⟩))
            all_goals
              go_wp2_with fail
              go_meet
              exact ⟨by first | rfl | (simp only [cat_text]), ⟨hb5.os, hb5.tape, hb5.output, hb5.size, hb5.block⟩⟩
          case rest =>
            obtain ⟨rfl, hb6⟩ := hcut
            have z0 := (hb6.cell (p := ⟨bx, 0, none⟩) lx).trans y0
            have B6 := Lib.hid (B1.out.trans (hb6.mono B1.out.size))
            have hV : (U ++ st xa ++ [45, 45, 32] ++ shw xb.data.toList).length ≤ 2000000000000 := by simp only [List.length_append, List.length_cons, List.length_nil]; omega
            generalize hVV : U ++ st xa ++ [45, 45, 32] ++ shw xb.data.toList = V at *
            have HV := Lib.hid hVV
            clear hVV hb6 y0 y1 y2
            go_wp2_with fail
            go_roundw
            case rel => exact ⟨k + 1, by omega, by go_num, by rw [NT1.out, ← HV.out, ← HU.out]; simp only [cat_text]; simp [lin, gapB], B6.out⟩
            case measure => simp [intOf]; omega
      have b1 : (xk == 1) = false := by simpa using k1
      have b2 : (xk == 2) = false := by simpa using k2
      have b3 : (xk == 3) = false := by simpa using k3
      have b4 : (xk != 2) = true := by simpa using k2
      have b5 : (xk != 3) = true := by simpa using k3
      have NT1 := Lib.hid (NT.out.trans (by rw [itT_0 k1 k2 k3, List.append_nil]))
      have B1 := Lib.hid (HB.out.alloc hsz (.cells #[.int .i64 xk, .int .i64 xa, .string xb] 28 (0, 0)))
      clear NT k1 k2 k3
      go_wp2_with fail
      go_roundw
      case rel => exact ⟨k + 1, by omega, by go_num, by rw [NT1.out], B1.out⟩
      case measure => simp [intOf]; omega
    · have H1 := HN.out
      rw [List.take_of_length_le (Nat.le_of_eq HN.out)]
      go_wp2_with fail
      go_ret
      exact ⟨rfl, HB.out⟩

set_option maxRecDepth 100000 in
set_option maxHeartbeats 4000000 in
theorem rdata_calls (xs : List Itm) (p : Option Addr) (c n : Nat) (hn : xs.length = n) (w : World) (h : Its w xs p c) (ht : Mark.tot xs ≤ 1000000000000) :
    Calls Tryd.prog 12 #[.slice p n c] w fun e w' => e = .returned (.string ⟨(dta xs).toArray⟩) ∧ w = w' := by
  have hcap := h.cap
  have hmax := h.max
  unfold maxLen at hmax
  rw [hn] at hcap
  have q2 : (n : Int) ≤ 9223372036854775807 := by omega
  have HI := Lib.hid h
  have HN := Lib.hid hn
  have HT := Lib.hid ht
  clear h hn ht
  go_enter Tryd.func12, Tryd.ntmps12
  go_wp2_with fail
  go_loop [3, 4] (fun sv i => ∃ k : Nat, k ≤ n ∧ i = .int .i64 k ∧ sv = .string ⟨(dta (xs.take k)).toArray⟩) (fun _ i => n - (intOf i).toNat)
  case atStart => exact ⟨0, Nat.zero_le _, rfl, rfl⟩
  case round =>
    obtain ⟨k, hkn, rfl, rfl⟩ := hrel
    rcases Nat.lt_or_eq_of_le hkn with hlt | rfl
    · have q1 : (k : Int) < (n : Int) := by omega
      have hk : k < xs.length := by rw [HN.out]; exact hlt
      obtain ⟨b, o, rfl, hb, c0, c1, c2⟩ := Its.at_ HI.out hk
      have HLL := Lib.hid (show (dta (xs.take (k + 1))).length ≤ 1000000000000 from Nat.le_trans (dta_take_le _ _) HT.out)
      have N1 := Lib.hid (fun e => dta_1 hk e)
      have N0 := Lib.hid (fun e => dta_0 hk e)
      generalize xs[k] = x at *
      obtain ⟨xk, xa, xb⟩ := x
      simp only at c0 c1 c2 N1 N0
      by_cases k1 : xk = 1
      · subst k1
        have e1 := N1.out rfl
        have HL := HLL.out
        rw [e1, List.length_append] at HL
        have HE := Lib.hid e1
        have hbs : xb.data.toList.length = xb.size := rfl
        rw [hbs] at HL
        clear e1 N1 N0
        go_wp2_with fail
        go_round
        case rel => exact ⟨k + 1, by omega, by go_num, by rw [HE.out, ← bytes_add]⟩
        case measure => simp [intOf]; omega
      · have b1 : (xk == 1) = false := by simpa using k1
        have HE := Lib.hid (N0.out k1)
        clear k1 N1 N0
        go_wp2_with fail
        go_round
        case rel => exact ⟨k + 1, by omega, by go_num, by rw [HE.out]⟩
        case measure => simp [intOf]; omega
    · rw [List.take_of_length_le (Nat.le_of_eq HN.out)]
      go_wp2_with fail
      go_ret
      exact ⟨rfl, rfl⟩
end Go.Proofs.YtbjlnaobmgbpfaaDoor.Mark

/-
  Layer 8 (record): the head of an item, walked.
-/
import Derived.Test.YtfdpmbnjjnmdiaaRecLow
import Derived.Deep.RegionHeld3
import Derived.BigQuiet
import Derived.Deep.DeepCutAuto
namespace Go.Proofs.Ytfdpmbnjjnmdiaa.Rec
open Go.RowKit Go.Proofs.Ytfdpmbnjjnmdiaa.Sum

theorem cut_mid {P : Program} (t : TypeId) (ht : P.underlying t = some .string) (s : ByteArray) (i j : Int) (h0 : 0 ≤ i) (h1 : i ≤ j) (h : j ≤ s.size) (W : World) :
    (Instr.sliceAt t (.string s) (some (.int .i64 i)) (some (.int .i64 j)) none).run P W = .ok (.string (s.extract i.toNat j.toNat)) W := by
  rw [run_sliceAt_string W t _ _ _ _ ht, run_slice_string W t s .i64 .i64 i j ht h0 h1 h]
theorem first_of (s : ByteArray) (h : 0 < s.size) : s.data.toList.head? = some s[0] := by
  obtain ⟨⟨l⟩⟩ := s
  cases l with
  | nil => exact absurd h (Nat.lt_irrefl 0)
  | cons a l => rfl
theorem kd_of (s : ByteArray) (h : 1 < s.size) : kd s.data.toList = (s[1].toNat : Int) := by
  obtain ⟨⟨l⟩⟩ := s
  match l, h with
  | a :: b :: l, _ => rfl
theorem mid_list (s : ByteArray) (i j : Nat) : (s.extract i j).data.toList = (s.data.toList.drop i).take (j - i) := by
  rw [extract_list, List.drop_take]
theorem mid_size (s : ByteArray) (i j : Nat) : (s.extract i j).size ≤ j - i := by
  simp [ByteArray.size_extract]; omega

theorem row3 {w : World} {b : Nat} {x y z : Value} {t : TypeId} (h : w.heap[b]? = some (.cells #[x, y, z] t (0, 0))) :
    w.cell? ⟨b, 0, none⟩ = some x ∧ w.cell? ⟨b, 1, none⟩ = some y ∧ w.cell? ⟨b, 2, none⟩ = some z ∧ w.frozen? ⟨b, 0, none⟩ = false ∧ w.frozen? ⟨b, 1, none⟩ = false ∧ w.frozen? ⟨b, 2, none⟩ = false :=
  ⟨Own.at_cell h 0, Own.at_cell h 1, Own.at_cell h 2, Own.at_frozen h 0, Own.at_frozen h 1, Own.at_frozen h 2⟩

/-- what an item's head tells -/
structure Parts (s : ByteArray) (a n : Int) : Prop where
  at_ : ∃ p : ByteArray, p.size ≤ 6 ∧ be p.data.toList = a ∧ ∀ W, (Instr.sliceAt 9 (.string s) (some (.int .i64 2)) (some (.int .i64 8)) none).run Try.prog W = .ok (.string p) W
  ln : ∃ p : ByteArray, p.size ≤ 6 ∧ be p.data.toList = n ∧ ∀ W, (Instr.sliceAt 9 (.string s) (some (.int .i64 8)) (some (.int .i64 10)) none).run Try.prog W = .ok (.string p) W
theorem parts_of (s : ByteArray) (h : 10 ≤ s.size) : Parts s (Rec.at_ s.data.toList) (Rec.ln s.data.toList) :=
  ⟨⟨s.extract 2 8, mid_size s 2 8, by rw [mid_list]; rfl, fun W => cut_mid 9 Try.underlying9 s 2 8 (by omega) (by omega) (by omega) W⟩,
   ⟨s.extract 8 10, Nat.le_trans (mid_size s 8 10) (by omega), by rw [mid_list]; rfl, fun W => cut_mid 9 Try.underlying9 s 8 10 (by omega) (by omega) (by omega) W⟩⟩

/-- the ways through an item's head -/
theorem head_ways (s : ByteArray) : s = ByteArray.empty ∨ ((s.toList == []) = false ∧ ∃ h : 0 < s.size,
    ((((s[0].toNat : Int) == 87) = false ∧ hdC s.data.toList = 3) ∨
     (((s[0].toNat : Int) == 87) = true ∧ s.size < 10 ∧ hdC s.data.toList = 13) ∨
     (((s[0].toNat : Int) == 87) = true ∧ ∃ h10 : 10 ≤ s.size, kd s.data.toList = (s[1].toNat : Int) ∧
       ((chk (hdI s.data.toList) ≠ 0 ∧ hdC s.data.toList = chk (hdI s.data.toList)) ∨
        (chk (hdI s.data.toList) = 0 ∧ 4096 < ln s.data.toList ∧ hdC s.data.toList = 5) ∨
        (chk (hdI s.data.toList) = 0 ∧ ln s.data.toList ≤ 4096 ∧ hdC s.data.toList = 0))))) := by
  by_cases h0 : s.size = 0
  · exact .inl (ByteArray.ext (Array.eq_empty_of_size_eq_zero h0))
  · right
    have hp : 0 < s.size := by omega
    have hne : s.data.toList ≠ [] := by
      intro e; apply h0; rw [← size_list, e]; rfl
    refine ⟨by rw [beq_eq_false_iff_ne, ByteArray.toList_eq]; exact hne, hp, ?_⟩
    have hf := first_of s hp
    by_cases h1 : s[0] = 87
    · have hb : ((s[0].toNat : Int) == 87) = true := by rw [h1]; rfl
      rw [h1] at hf
      right
      by_cases h2 : s.size < 10
      · exact .inl ⟨hb, h2, hd_short hne hf h2⟩
      · right
        have h10 : 10 ≤ s.size := by omega
        refine ⟨hb, h10, kd_of s (by omega), ?_⟩
        by_cases h3 : chk (hdI s.data.toList) = 0
        · right
          by_cases h4 : 4096 < ln s.data.toList
          · exact .inl ⟨h3, h4, hd_size hf h10 h3 h4⟩
          · exact .inr ⟨h3, by omega, hd_ok hf h10 h3 (by omega)⟩
        · exact .inl ⟨h3, hd_chk hf h10 h3⟩
    · left
      refine ⟨?_, hd_form hne (by rw [hf]; simpa using h1)⟩
      rw [beq_eq_false_iff_ne]
      intro e
      apply h1
      apply UInt8.toNat_inj.1
      show s[0].toNat = 87
      omega

def HeadPost (s : ByteArray) (w : World) (e : Ending) (w' : World) : Prop :=
  e = .returned (.tuple #[.agg #[.int .i64 (hdX s.data.toList).k, .int .i64 (hdX s.data.toList).a, .string (hdX s.data.toList).b], .int .i64 (hdN s.data.toList), .int .i64 (hdC s.data.toList)]) ∧ Below w.heap.size w w'
theorem head_none {s : ByteArray} {w w' : World} {c : Int} (h : hdC s.data.toList = c) (hc : c ≠ 0) (hb : Below w.heap.size w w') : HeadPost s w (.returned (.tuple #[.agg #[.int .i64 0, .int .i64 0, .string ByteArray.empty], .int .i64 0, .int .i64 c])) w' := by
  obtain ⟨e1, e2⟩ := hd_none (l := s.data.toList) (by rw [h]; exact hc)
  exact ⟨by rw [e1, e2, h]; rfl, hb⟩
theorem head_some {s : ByteArray} {w w' : World} (h : hdC s.data.toList = 0) (hb : Below w.heap.size w w') : HeadPost s w (.returned (.tuple #[.agg #[.int .i64 (kd s.data.toList), .int .i64 (Rec.at_ s.data.toList), .string ByteArray.empty], .int .i64 (ln s.data.toList), .int .i64 0])) w' := by
  obtain ⟨e1, e2⟩ := hd_some h
  exact ⟨by rw [e1, e2, h]; rfl, hb⟩

set_option maxRecDepth 100000 in
set_option maxHeartbeats 1000000 in
theorem head_calls (s : ByteArray) (hs : s.size ≤ 4611686018427387904) (w : World) :
    Calls Try.prog 24 #[.string s] w (HeadPost s w) := by
  rcases head_ways s with rfl | ⟨hz, hp, ⟨h1, e⟩ | ⟨h1, h2, e⟩ | ⟨h1, h10, hk, hx⟩⟩
  · go_enter Try.func24, Try.ntmps24
    go_wp2_with fail
    refine bodyPost_ret (v := .tuple #[.agg #[.int .i64 0, .int .i64 0, .string ByteArray.empty], .int .i64 0, .int .i64 13]) ?_ rfl (head_none rfl (by decide) ((Below.refl _ _).alloc (Nat.le_refl _) _))
    simp [results, Try.results24, go_sem, *]
    rfl
  · have HE := Lib.hid e; clear e
    go_enter Try.func24, Try.ntmps24
    go_wp2_with fail
    refine bodyPost_ret (v := .tuple #[.agg #[.int .i64 0, .int .i64 0, .string ByteArray.empty], .int .i64 0, .int .i64 3]) ?_ rfl (head_none HE.out (by decide) ((Below.refl _ _).alloc (Nat.le_refl _) _))
    simp [results, Try.results24, go_sem, *]
    rfl
  · have HE := Lib.hid e; clear e
    go_enter Try.func24, Try.ntmps24
    go_wp2_with fail
    refine bodyPost_ret (v := .tuple #[.agg #[.int .i64 0, .int .i64 0, .string ByteArray.empty], .int .i64 0, .int .i64 13]) ?_ rfl (head_none HE.out (by decide) ((Below.refl _ _).alloc (Nat.le_refl _) _))
    simp [results, Try.results24, go_sem, *]
    rfl
  · obtain ⟨⟨p, hp6, hpa, hpw⟩, q, hq6, hqn, hqw⟩ := parts_of s h10
    obtain ⟨c, hc⟩ : ∃ c, chk (hdI s.data.toList) = c := ⟨_, rfl⟩
    rw [hc] at hx
    unfold hdI at hc
    rw [hk, ← hpa] at hc
    have HC : Hid (chk ⟨(s[1].toNat : Int), be p.data.toList, ⟨#[]⟩⟩ = c) := Lib.hid hc
    have HN := Lib.hid hqn
    have HP := Lib.hid hpa
    have HK := Lib.hid hk
    have k1 : (1 : Int) < (s.size : Int) := by omega
    have k2 : (s[1].toNat : Int) < 256 := by have := s[1].toNat_lt; omega
    have b1 : ((s[0].toNat : Int) != 87) = false := by simpa using h1
    have b2 : decide ((s.size : Int) < 10) = false := decide_eq_false (by omega)
    have kw : IntKind.i64.wrap (s[1].toNat : Int) = (s[1].toNat : Int) := IntWalk.i64_in _ (by omega)
    clear hc hqn hpa hk
    go_enter Try.func24, Try.ntmps24
    go_upto_region 7 with (fail)
    go_cut [5] (fun s5 wx => s5 = .pointer (some ⟨w.heap.size + 1, 0, none⟩) ∧ wx = ((w.alloc (.cells #[.int .i64 0, .int .i64 0, .string ⟨#[]⟩] 23)).alloc (.cells #[.int .i64 (s[1].toNat : Int), .int .i64 (be p.data.toList), .string ⟨#[]⟩] 23)).drew)
    case first =>
      go_region_held3 (fun w' => True)
        (first | trivial)
        (first
          | (go_at_call 28; refine (number_calls _ hp6 _).mono ?_; rintro e w5 ⟨rfl, rfl⟩))
      all_goals (go_wp2_with fail; go_meet; exact ⟨rfl, rfl⟩)
    case rest =>
      obtain ⟨rfl, rfl⟩ := hcut
      go_wp2_with fail
      refine (check_calls _ _ _ _).mono ?_
      rintro e w5 ⟨rfl, hb5⟩
      rw [HC.out]
      have hr : w5.heap[w.heap.size]? = some (.cells #[.int .i64 0, .int .i64 0, .string ⟨#[]⟩] 23 (0, 0)) := by
        rw [hb5.block w.heap.size (by simp; omega)]; show ((w.alloc _).alloc _).heap[_]? = _; exact Own.at_old _ _ (Own.at_new _ _)
      have hq : w5.heap[w.heap.size + 1]? = some (.cells #[.int .i64 (s[1].toNat : Int), .int .i64 (be p.data.toList), .string ⟨#[]⟩] 23 (0, 0)) := by
        rw [hb5.block (w.heap.size + 1) (by simp)]; show ((w.alloc _).alloc _).heap[_]? = _; exact Own.at_newk _ _ (by simp)
      have hB : Below w.heap.size w w5 := ((((Below.refl _ _).alloc (Nat.le_refl _) _).alloc (by simp) _).drew).trans (hb5.mono (by simp; omega))
      clear hb5
      obtain ⟨c0, c1, c2, f0, f1, f2⟩ := row3 hr
      obtain ⟨d0, d1, d2, g0, g1, g2⟩ := row3 hq
      clear hr hq
      rcases hx with ⟨hc0, e⟩ | ⟨hc0, hn, e⟩ | ⟨hc0, hn, e⟩
      · have HE := Lib.hid e; clear e
        have b3 : (c != 0) = true := by simpa using hc0
        have b4 : (c == 0) = false := by simpa using hc0
        go_wp2_with fail
        refine bodyPost_ret (v := .tuple #[.agg #[.int .i64 0, .int .i64 0, .string ByteArray.empty], .int .i64 0, .int .i64 c]) ?_ rfl (head_none HE.out hc0 (((hB.setCell (p := ⟨_, _, _⟩) (Nat.le_refl _) _).setCell (p := ⟨_, _, _⟩) (Nat.le_refl _) _).setCell (p := ⟨_, _, _⟩) (Nat.le_refl _) _))
        simp [results, Try.results24, go_sem, *]
        rfl
      · have HE := Lib.hid e; clear e
        subst hc0
        rw [← HN.out] at hn
        go_wp2_with (go_at_call 28; refine (number_calls _ hq6 _).mono ?_; rintro e w' ⟨rfl, rfl⟩)
        refine bodyPost_ret (v := .tuple #[.agg #[.int .i64 0, .int .i64 0, .string ByteArray.empty], .int .i64 0, .int .i64 5]) ?_ rfl (head_none HE.out (by decide) (((hB.setCell (p := ⟨_, _, _⟩) (Nat.le_refl _) _).setCell (p := ⟨_, _, _⟩) (Nat.le_refl _) _).setCell (p := ⟨_, _, _⟩) (Nat.le_refl _) _))
        simp [results, Try.results24, go_sem, *]
        rfl
      · have HE := Lib.hid e; clear e
        subst hc0
        rw [← HN.out] at hn
        go_wp2_with (go_at_call 28; refine (number_calls _ hq6 _).mono ?_; rintro e w' ⟨rfl, rfl⟩)
        refine bodyPost_ret (v := .tuple #[.agg #[.int .i64 (kd s.data.toList), .int .i64 (Rec.at_ s.data.toList), .string ByteArray.empty], .int .i64 (ln s.data.toList), .int .i64 0]) ?_ rfl (head_some HE.out (((hB.setCell (p := ⟨_, _, _⟩) (Nat.le_refl _) _).setCell (p := ⟨_, _, _⟩) (Nat.le_refl _) _).setCell (p := ⟨_, _, _⟩) (Nat.le_refl _) _))
        rw [HK.out, ← HP.out, ← HN.out]
        simp [results, Try.results24, go_sem, *]
        rfl

end Go.Proofs.Ytfdpmbnjjnmdiaa.Rec

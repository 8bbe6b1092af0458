/-
  Layer 4 (ring): the document's own ring, walked.
-/
import Derived.Test.YtgbelgmnenbmcaaProg
import Derived.Test.YtgbelgmnenbmcaaRingPlain
import Derived.Deep.QuietTactic
import Derived.BigQuiet
import Derived.WalkKit
import Derived.WalkSpells
import Derived.Lib.IndexBytes
import Derived.Deep.RegionHeld3
import Derived.IntWalk
namespace Go.Proofs.Ytgbelgmnenbmcaa.Ring
open Go.RowKit Go.Proofs.Ytgbelgmnenbmcaa.Own

/-- the document's ring as a value -/
def rv (all : List UInt8) (g most : Nat) : Value := .agg #[.string ⟨all.toArray⟩, .int .i64 g, .int .i64 most]

theorem ba_ext {a b : ByteArray} (h : a.data.toList = b.data.toList) : a = b := by
  cases a; cases b; congr 1; exact Array.toList_inj.1 h
theorem ba_extract (l : List UInt8) (g : Nat) : (⟨l.toArray⟩ : ByteArray).extract g l.length = ⟨(l.drop g).toArray⟩ := by
  apply ba_ext
  have := Lib.extract_to_end ⟨l.toArray⟩ g
  have e : (⟨l.toArray⟩ : ByteArray).size = l.length := by simp [ByteArray.size]
  rw [e] at this
  rw [this]

theorem rtext_calls (all : List UInt8) (g most : Nat) (hg : g ≤ all.length) (w : World) :
    Calls Try.prog 22 #[.agg #[.string ⟨all.toArray⟩, .int .i64 g, .int .i64 most]] w fun e w' => e = .returned (.string ⟨(all.drop g).toArray⟩) ∧ Below w.heap.size w w' := by
  have hs : (⟨all.toArray⟩ : ByteArray).size = all.length := by simp [ByteArray.size]
  have e0 : (0 : Int) ≤ (g : Int) := by omega
  have e1 : (g : Int) ≤ (all.length : Int) := by omega
  go_enter Try.func22, Try.ntmps22
  go_wp2_with fail
  go_ret
  exact ⟨by rw [ba_extract]; rfl, (Below.refl _ _).alloc (Nat.le_refl _) _⟩

theorem ba_take (l : List UInt8) (k : Nat) : (⟨l.toArray⟩ : ByteArray).extract 0 k = ⟨(l.take k).toArray⟩ := by
  apply ba_ext
  rw [Lib.extract_data]; simp
theorem ba_app (l : List UInt8) (s : ByteArray) : (⟨l.toArray⟩ : ByteArray) ++ s = ⟨(l ++ s.data.toList).toArray⟩ := by
  apply ba_ext; simp

theorem row3 {w : World} {b : Nat} {x y z : Value} {T : TypeId} {fr : Nat × Nat} (h : w.heap[b]? = some (.cells #[x, y, z] T fr)) :
    w.cell? ⟨b, 0, none⟩ = some x ∧ w.cell? ⟨b, 1, none⟩ = some y ∧ w.cell? ⟨b, 2, none⟩ = some z := by
  refine ⟨?_, ?_, ?_⟩ <;> (rw [at_cell h]; rfl)

set_option maxHeartbeats 400000 in
theorem rput_some (all : List UInt8) (g most : Nat) (s : ByteArray) (hg : g ≤ all.length) (hl : all.length ≤ 1048576) (hs : s.size ≤ 1048576) (h : (all.length - g) + s.size ≤ most) (w : World) :
    Calls Try.prog 8 #[.agg #[.string ⟨all.toArray⟩, .int .i64 g, .int .i64 most], .string s] w fun e w' =>
      e = .returned (.tuple #[.agg #[.string ⟨(all ++ s.data.toList).toArray⟩, .int .i64 g, .int .i64 most], .bool true]) ∧ Below w.heap.size w w' := by
  have h1 : ((all.length - g : Nat) : Int) + s.size ≤ most := by omega
  have h2 : ((all.length - g : Nat) : Int) ≤ 1048576 := by omega
  have HA := Lib.hid (ba_app all s)
  have kw : IntKind.i64.wrap (((all.length - g : Nat) : Int) + s.size) = ((all.length - g : Nat) : Int) + s.size := IntWalk.i64_in _ (by omega)
  go_enter Try.func8, Try.ntmps8
  go_wp2_with fail
  go_region_held3 (fun w' => w'.cell? ⟨w.heap.size, 0, none⟩ = some (.string ⟨all.toArray⟩) ∧ w'.cell? ⟨w.heap.size, 1, none⟩ = some (.int .i64 g) ∧ w'.cell? ⟨w.heap.size, 2, none⟩ = some (.int .i64 most))
    (first
      | go_keep
      | (go_split_ands; refine ⟨?_, ?_, ?_⟩ <;> (rw [hb5.cell (by simp; omega)]; assumption)))
    (first
      | (go_at_call 22; refine (rtext_calls all g most hg _).mono ?_; rintro e w5 ⟨rfl, hb5⟩))
  clear kw
  have hr : w5.heap[w.heap.size]? = some (.cells #[.string ⟨all.toArray⟩, .int .i64 g, .int .i64 most] 29 (0, 0)) := by
    rw [hb5.block w.heap.size (by simp; omega)]; show ((w.alloc _).alloc _).heap[_]? = _; exact at_old _ _ (at_new _ _)
  have hq : w5.heap[w.heap.size + 1]? = some (.cells #[.string ⟨#[]⟩, .int .i64 0, .int .i64 0] 29 (0, 0)) := by
    rw [hb5.block (w.heap.size + 1) (by simp)]; show ((w.alloc _).alloc _).heap[_]? = _; exact at_newk _ _ (by simp)
  have hB : Below w.heap.size w w5 := ((((Below.refl _ _).alloc (Nat.le_refl _) _).alloc (by simp) _).drew).trans (hb5.mono (by simp; omega))
  clear hb5
  obtain ⟨c0, c1, c2⟩ := row3 hr
  have z0 := at_frozen hr 0
  obtain ⟨d0, d1, d2⟩ := row3 hq
  have y0 := at_frozen hq 0
  have y1 := at_frozen hq 1
  have y2 := at_frozen hq 2
  have HR := Lib.hid hr; clear hr
  have HQ := Lib.hid hq; clear hq
  go_wp2_with fail
  refine bodyPost_ret (v := .tuple #[.agg #[.string ⟨(all ++ s.data.toList).toArray⟩, .int .i64 g, .int .i64 most], .bool true]) ?_ rfl ⟨rfl, ?_⟩
  · simp [results, Try.results8, go_sem, *]
    exact HA.out
  · exact (((hB.setCell (p := ⟨_, _, _⟩) (Nat.le_refl _) _).setCell (p := ⟨_, _, _⟩) (Nat.le_succ _) _).setCell (p := ⟨_, _, _⟩) (Nat.le_succ _) _).setCell (p := ⟨_, _, _⟩) (Nat.le_succ _) _

set_option maxHeartbeats 400000 in
theorem rput_none (all : List UInt8) (g most : Nat) (s : ByteArray) (hg : g ≤ all.length) (hl : all.length ≤ 1048576) (hs : s.size ≤ 1048576) (h : most < (all.length - g) + s.size) (w : World) :
    Calls Try.prog 8 #[.agg #[.string ⟨all.toArray⟩, .int .i64 g, .int .i64 most], .string s] w fun e w' =>
      e = .returned (.tuple #[.agg #[.string ⟨all.toArray⟩, .int .i64 g, .int .i64 most], .bool false]) ∧ Below w.heap.size w w' := by
  have h1 : (most : Int) < ((all.length - g : Nat) : Int) + s.size := by omega
  have h2 : ((all.length - g : Nat) : Int) ≤ 1048576 := by omega
  have kw : IntKind.i64.wrap (((all.length - g : Nat) : Int) + s.size) = ((all.length - g : Nat) : Int) + s.size := IntWalk.i64_in _ (by omega)
  go_enter Try.func8, Try.ntmps8
  go_wp2_with fail
  go_region_held3 (fun w' => w'.cell? ⟨w.heap.size, 0, none⟩ = some (.string ⟨all.toArray⟩) ∧ w'.cell? ⟨w.heap.size, 1, none⟩ = some (.int .i64 g) ∧ w'.cell? ⟨w.heap.size, 2, none⟩ = some (.int .i64 most))
    (first
      | go_keep
      | (go_split_ands; refine ⟨?_, ?_, ?_⟩ <;> (rw [hb5.cell (by simp; omega)]; assumption)))
    (first
      | (go_at_call 22; refine (rtext_calls all g most hg _).mono ?_; rintro e w5 ⟨rfl, hb5⟩))
  clear kw
  have hr : w5.heap[w.heap.size]? = some (.cells #[.string ⟨all.toArray⟩, .int .i64 g, .int .i64 most] 29 (0, 0)) := by
    rw [hb5.block w.heap.size (by simp; omega)]; show ((w.alloc _).alloc _).heap[_]? = _; exact at_old _ _ (at_new _ _)
  have hq : w5.heap[w.heap.size + 1]? = some (.cells #[.string ⟨#[]⟩, .int .i64 0, .int .i64 0] 29 (0, 0)) := by
    rw [hb5.block (w.heap.size + 1) (by simp)]; show ((w.alloc _).alloc _).heap[_]? = _; exact at_newk _ _ (by simp)
  have hB : Below w.heap.size w w5 := ((((Below.refl _ _).alloc (Nat.le_refl _) _).alloc (by simp) _).drew).trans (hb5.mono (by simp; omega))
  clear hb5
  obtain ⟨c0, c1, c2⟩ := row3 hr
  have z0 := at_frozen hr 0
  obtain ⟨d0, d1, d2⟩ := row3 hq
  have y0 := at_frozen hq 0
  have y1 := at_frozen hq 1
  have y2 := at_frozen hq 2
  have HR := Lib.hid hr; clear hr
  have HQ := Lib.hid hq; clear hq
  go_wp2_with fail
  refine bodyPost_ret (v := .tuple #[.agg #[.string ⟨all.toArray⟩, .int .i64 g, .int .i64 most], .bool false]) ?_ rfl ⟨rfl, ?_⟩
  · simp [results, Try.results8, go_sem, *]
  · exact ((hB.setCell (p := ⟨_, _, _⟩) (Nat.le_succ _) _).setCell (p := ⟨_, _, _⟩) (Nat.le_succ _) _).setCell (p := ⟨_, _, _⟩) (Nat.le_succ _) _

/-- so many go -/
theorem rforce_calls (all : List UInt8) (g most : Nat) (s : ByteArray) (hg : g ≤ all.length) (hl : all.length ≤ 1048576) (hs : s.size ≤ 1048576) (hm : most ≤ 1048576) (w : World) :
    Calls Try.prog 10 #[.agg #[.string ⟨all.toArray⟩, .int .i64 g, .int .i64 most], .string s] w fun e w' =>
      e = .returned (.tuple #[.agg #[.string ⟨(all ++ s.data.toList).toArray⟩, .int .i64 ((g + (all.length - g + s.size - most) : Nat) : Int), .int .i64 most], .int .i64 ((all.length - g + s.size - most : Nat) : Int)]) ∧ Below w.heap.size w w' := by
  have ha := ba_app all s
  have hsz : (all ++ s.data.toList).length = all.length + s.size := by rw [List.length_append, Array.length_toList]; rfl
  obtain ⟨o, ho⟩ : ∃ o, o = all.length - g + s.size - most := ⟨_, rfl⟩
  rw [← ho]
  obtain ⟨N, hN⟩ : ∃ N, N = all.length + s.size := ⟨_, rfl⟩
  rw [← hN] at hsz
  have hNm : N ≤ 2097152 := by omega
  have hNg : g ≤ N := by omega
  have hoN : o = N - g - most := by omega
  have HO := Lib.hid hoN
  have ho1 : o ≤ N := by omega
  have ho2 : g + o ≤ N := by omega
  clear ho hoN
  have HN := Lib.hid hN; clear hN
  generalize all ++ s.data.toList = A at *
  have HA := Lib.hid ha; clear ha
  go_enter Try.func10, Try.ntmps10
  go_wp2_with fail
  rw [HA.out]
  go_loopw [6] (fun n wr => ∃ j : Nat, n = .int .i64 j ∧ j ≤ o ∧ wr.heap[w.heap.size]? = some (.cells #[.string ⟨A.toArray⟩, .int .i64 ((g + j : Nat) : Int), .int .i64 most] 29 (0, 0)) ∧
      wr.heap[w.heap.size + 1]? = some (.cells #[.string ⟨#[]⟩, .int .i64 0, .int .i64 0] 29 (0, 0)) ∧ Below w.heap.size w wr) (fun n _ => o - (intOf n).toNat)
  case atStart => exact ⟨0, rfl, Nat.zero_le _, at_old _ _ (at_new _ _), at_newk _ _ (by simp), ((Below.refl _ _).alloc (Nat.le_refl _) _).alloc (by simp) _⟩
  case round =>
    obtain ⟨j, rfl, hj, hr, hq, hB⟩ := hrel
    obtain ⟨c0, c1, c2⟩ := row3 hr
    have z1 := at_frozen hr 1
    obtain ⟨d0, d1, d2⟩ := row3 hq
    have y0 := at_frozen hq 0
    have y1 := at_frozen hq 1
    have y2 := at_frozen hq 2
    have HR := Lib.hid hr; clear hr
    have HQ := Lib.hid hq; clear hq
    by_cases hlt : j < o
    · have ht : (most : Int) < (N : Int) - ((g + j : Nat) : Int) := by have := HO.out; omega
      go_wp2_with fail
      go_roundw
      case rel => exact ⟨j + 1, by go_num, by omega, by rw [at_set HR.out 1 _]; simp; omega, by rw [at_set_other _ (by omega)]; exact HQ.out, hB.setCell (Nat.le_refl _) _⟩
      case measure => simp [intOf]; omega
    · have ht : ¬ (most : Int) < (N : Int) - ((g + j : Nat) : Int) := by have := HO.out; omega
      obtain rfl : j = o := by omega
      go_wp2_with fail
      refine bodyPost_ret (v := .tuple #[.agg #[.string ⟨A.toArray⟩, .int .i64 ((g + j : Nat) : Int), .int .i64 most], .int .i64 (j : Int)]) ?_ rfl ⟨by simp, ?_⟩
      · simp [results, Try.results10, go_sem, *]
      · exact ((hB.setCell (p := ⟨_, _, _⟩) (Nat.le_succ _) _).setCell (p := ⟨_, _, _⟩) (Nat.le_succ _) _).setCell (p := ⟨_, _, _⟩) (Nat.le_succ _) _

theorem two_facts {w w5 : World} {o1 o2 : Obj} (h : Below ((w.alloc o1).alloc o2).heap.size ((w.alloc o1).alloc o2) w5) : w5.heap[w.heap.size]? = some o1 ∧ w5.heap[w.heap.size + 1]? = some o2 ∧ Below w.heap.size w w5 := by
  refine ⟨?_, ?_, (((Below.refl _ _).alloc (Nat.le_refl _) _).alloc (by simp) _).trans (h.mono (by simp; omega))⟩
  · rw [h.block w.heap.size (by simp; omega)]; exact at_old _ _ (at_new _ _)
  · rw [h.block (w.heap.size + 1) (by simp)]; exact at_newk _ _ (by simp)

/-- the number that n stands for, of so many -/
def rupto (n : Int) (t : List UInt8) : Nat := min n.toNat t.length

theorem rtake_calls (all : List UInt8) (g most : Nat) (n : Int) (hg : g ≤ all.length) (hl : all.length ≤ 1048576) (w : World) :
    Calls Try.prog 12 #[.agg #[.string ⟨all.toArray⟩, .int .i64 g, .int .i64 most], .int .i64 n] w fun e w' =>
      e = .returned (.tuple #[.agg #[.string ⟨all.toArray⟩, .int .i64 ((g + rupto n (all.drop g) : Nat) : Int), .int .i64 most], .string ⟨((all.drop g).take (rupto n (all.drop g))).toArray⟩]) ∧ Below w.heap.size w w' := by
  have hd : (all.drop g).length = all.length - g := by simp
  obtain ⟨D, hD⟩ : ∃ D, D = all.drop g := ⟨_, rfl⟩
  rw [← hD] at hd
  have HT : Hid (∀ W, Calls Try.prog 22 #[.agg #[.string ⟨all.toArray⟩, .int .i64 g, .int .i64 most]] W fun e w' => e = .returned (.string ⟨D.toArray⟩) ∧ Below W.heap.size W w') :=
    Lib.hid fun W => by rw [hD]; exact rtext_calls all g most hg W
  rw [← hD]
  clear hD
  have hle : D.length ≤ 1048576 - g := by omega
  have hg2 : g ≤ 1048576 := by omega
  clear hd
  by_cases h0 : n < 0
  · have HK : Hid (rupto n D = 0) := Lib.hid (by unfold rupto; omega)
    go_enter Try.func12, Try.ntmps12
    go_wp2_with fail
    refine (HT.out _).mono ?_
    rintro e w5 ⟨rfl, hb5⟩
    obtain ⟨hr, hq, hB⟩ := two_facts hb5
    clear hb5
    obtain ⟨c0, c1, c2⟩ := row3 hr
    have z1 := at_frozen hr 1
    obtain ⟨d0, d1, d2⟩ := row3 hq
    have y0 := at_frozen hq 0
    have y1 := at_frozen hq 1
    have y2 := at_frozen hq 2
    clear hr hq
    go_wp2_with fail
    refine bodyPost_ret (v := .tuple #[.agg #[.string ⟨all.toArray⟩, .int .i64 g, .int .i64 most], .string ByteArray.empty]) ?_ rfl ⟨by rw [HK.out]; rfl, ?_⟩
    · simp [results, Try.results12, go_sem, *]
    · exact (((hB.setCell (p := ⟨_, _, _⟩) (Nat.le_refl _) _).setCell (p := ⟨_, _, _⟩) (Nat.le_succ _) _).setCell (p := ⟨_, _, _⟩) (Nat.le_succ _) _).setCell (p := ⟨_, _, _⟩) (Nat.le_succ _) _
  · obtain ⟨k, rfl⟩ : ∃ k : Nat, n = k := ⟨n.toNat, by omega⟩
    by_cases hz : k = 0 ∧ 0 < D.length
    · obtain ⟨rfl, h1⟩ := hz
      have HK : Hid (rupto ((0 : Nat) : Int) D = 0) := Lib.hid (by unfold rupto; omega)
      have i1 : (0 : Int) < (D.length : Int) := by omega
      go_enter Try.func12, Try.ntmps12
      go_wp2_with fail
      refine (HT.out _).mono ?_
      rintro e w5 ⟨rfl, hb5⟩
      obtain ⟨hr, hq, hB⟩ := two_facts hb5
      clear hb5
      obtain ⟨c0, c1, c2⟩ := row3 hr
      have z1 := at_frozen hr 1
      obtain ⟨d0, d1, d2⟩ := row3 hq
      have y0 := at_frozen hq 0
      have y1 := at_frozen hq 1
      have y2 := at_frozen hq 2
      clear hr hq
      go_wp2_with fail
      refine bodyPost_ret (v := .tuple #[.agg #[.string ⟨all.toArray⟩, .int .i64 g, .int .i64 most], .string ByteArray.empty]) ?_ rfl ⟨by rw [HK.out]; rfl, ?_⟩
      · simp [results, Try.results12, go_sem, *]
      · exact (((hB.setCell (p := ⟨_, _, _⟩) (Nat.le_refl _) _).setCell (p := ⟨_, _, _⟩) (Nat.le_succ _) _).setCell (p := ⟨_, _, _⟩) (Nat.le_succ _) _).setCell (p := ⟨_, _, _⟩) (Nat.le_succ _) _
    by_cases h1 : k < D.length
    · have HK : Hid (rupto k D = k) := Lib.hid (by unfold rupto; omega)
      have i0 : (0 : Int) ≤ (k : Int) := by omega
      have i1 : (k : Int) < (D.length : Int) := by omega
      have i2 : (k : Int) ≤ (D.length : Int) := by omega
      have i3 : (0 : Int) < (k : Int) := by omega
      go_enter Try.func12, Try.ntmps12
      go_wp2_with fail
      refine (HT.out _).mono ?_
      rintro e w5 ⟨rfl, hb5⟩
      obtain ⟨hr, hq, hB⟩ := two_facts hb5
      clear hb5
      obtain ⟨c0, c1, c2⟩ := row3 hr
      have z1 := at_frozen hr 1
      obtain ⟨d0, d1, d2⟩ := row3 hq
      have y0 := at_frozen hq 0
      have y1 := at_frozen hq 1
      have y2 := at_frozen hq 2
      clear hr hq
      go_wp2_with fail
      refine bodyPost_ret (v := .tuple #[.agg #[.string ⟨all.toArray⟩, .int .i64 ((g : Int) + k), .int .i64 most], .string ((⟨D.toArray⟩ : ByteArray).extract 0 k)]) ?_ rfl ⟨by rw [HK.out, ba_take]; rfl, ?_⟩
      · simp [results, Try.results12, go_sem, *]; omega
      · exact (((hB.setCell (p := ⟨_, _, _⟩) (Nat.le_refl _) _).setCell (p := ⟨_, _, _⟩) (Nat.le_succ _) _).setCell (p := ⟨_, _, _⟩) (Nat.le_succ _) _).setCell (p := ⟨_, _, _⟩) (Nat.le_succ _) _
    · have HK : Hid (rupto k D = D.length) := Lib.hid (by unfold rupto; omega)
      have i1 : ¬ (k : Int) < (D.length : Int) := by omega
      go_enter Try.func12, Try.ntmps12
      go_wp2_with fail
      refine (HT.out _).mono ?_
      rintro e w5 ⟨rfl, hb5⟩
      obtain ⟨hr, hq, hB⟩ := two_facts hb5
      clear hb5
      obtain ⟨c0, c1, c2⟩ := row3 hr
      have z1 := at_frozen hr 1
      obtain ⟨d0, d1, d2⟩ := row3 hq
      have y0 := at_frozen hq 0
      have y1 := at_frozen hq 1
      have y2 := at_frozen hq 2
      clear hr hq
      go_wp2_with fail
      refine bodyPost_ret (v := .tuple #[.agg #[.string ⟨all.toArray⟩, .int .i64 ((g : Int) + D.length), .int .i64 most], .string ⟨D.toArray⟩]) ?_ rfl ⟨by rw [HK.out, List.take_of_length_le (Nat.le_refl _)]; rfl, ?_⟩
      · simp [results, Try.results12, go_sem, *]
      · exact (((hB.setCell (p := ⟨_, _, _⟩) (Nat.le_refl _) _).setCell (p := ⟨_, _, _⟩) (Nat.le_succ _) _).setCell (p := ⟨_, _, _⟩) (Nat.le_succ _) _).setCell (p := ⟨_, _, _⟩) (Nat.le_succ _) _

end Go.Proofs.Ytgbelgmnenbmcaa.Ring

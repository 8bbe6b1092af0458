/-
  Layer 8 (record): Scan, walked.
-/
import Derived.Test.YtfdpmbnjjnmdiaaRecRead
import Derived.Test.YtfdpmbnjjnmdiaaOwnRow
namespace Go.Proofs.Ytfdpmbnjjnmdiaa.Rec
open Go.RowKit Go.Proofs.Ytfdpmbnjjnmdiaa.Sum

/-- items as cells -/
def cv (l : List Itm) : List Value := l.flatMap fun x => [.int .i64 x.k, .int .i64 x.a, .string x.b]
theorem cv_len (l : List Itm) : (cv l).length = l.length * 3 := by
  induction l with
  | nil => rfl
  | cons e r ih => simp [cv] at ih ⊢; omega
theorem cv_app (l m : List Itm) : cv (l ++ m) = cv l ++ cv m := by simp [cv]
theorem cv_one (l : List Itm) : ∀ u ∈ cv l, u.oneCell' = true := by
  intro u hu
  simp only [cv, List.mem_flatMap] at hu
  obtain ⟨e, _, h⟩ := hu
  simp at h
  rcases h with rfl | rfl | rfl <;> rfl
theorem cv_get {l : List Itm} {i : Nat} (h : i < l.length) : (cv l)[i * 3]? = some (.int .i64 l[i].k) ∧ (cv l)[i * 3 + 1]? = some (.int .i64 l[i].a) ∧ (cv l)[i * 3 + 2]? = some (.string l[i].b) := by
  induction l generalizing i with
  | nil => simp at h
  | cons e r ih =>
    cases i with
    | zero => simp [cv]
    | succ i =>
      have := ih (i := i) (by simpa using h)
      simpa [cv, Nat.add_mul] using this
theorem info_item : (Try.prog.info? 23).map (fun i => (i.zero, i.size, i.bytes)) = some (some (.agg #[.int .i64 0, .int .i64 0, .string ⟨#[]⟩]), 3, 32) := by kernel_rfl

theorem read_no (s : ByteArray) (hs : s.size ≤ 4611686018427387904) (h : rdC s.data.toList ≠ 0) (w : World) :
    Calls Try.prog 12 #[.string s] w fun e w' => e = .returned (.tuple #[.agg #[.int .i64 0, .int .i64 0, .string ⟨#[]⟩], .int .i64 0, .int .i64 (rdC s.data.toList)]) ∧ Below w.heap.size w w' :=
  (read_calls s hs w).mono fun e w' hp => by
    obtain ⟨rfl, hb⟩ := hp
    obtain ⟨e1, e2⟩ := rd_none h
    rw [e1, e2]; exact ⟨rfl, hb⟩
theorem read_yes (s : ByteArray) (hs : s.size ≤ 4611686018427387904) (h : rdC s.data.toList = 0) (x : Itm) (n : Int) (hx : rdX s.data.toList = x) (hn : rdN s.data.toList = n) (w : World) :
    Calls Try.prog 12 #[.string s] w fun e w' => e = .returned (.tuple #[.agg #[.int .i64 x.k, .int .i64 x.a, .string x.b], .int .i64 n, .int .i64 0]) ∧ Below w.heap.size w w' :=
  (read_calls s hs w).mono fun e w' hp => by
    obtain ⟨rfl, hb⟩ := hp
    rw [hx, hn, h]; exact ⟨rfl, hb⟩

/-- what is left of a text -/
theorem from_of (s : ByteArray) (k : Nat) (hk : k ≤ s.size) : ∃ p : ByteArray, p.size ≤ s.size ∧ p.data.toList = s.data.toList.drop k ∧ ∀ W, (Instr.sliceAt 9 (.string s) (some (.int .i64 k)) none none).run Try.prog W = .ok (.string p) W :=
  ⟨s.extract (k : Int).toNat s.size, by simp [ByteArray.size_extract], by rw [extract_list, show (k : Int).toNat = k by omega, List.take_of_length_le (by rw [size_list]; omega)], fun W => cut_from 9 Try.underlying9 s k (by omega) (by omega) W⟩

/-- items found, so many bytes done -/
structure ScanAt (s : ByteArray) (w wr : World) (L : List Itm) (k : Nat) (v : Value) : Prop where
  own : wr.ownsRow w.heap.size 23 3 v L.length (cv L)
  below : Below w.heap.size w wr
  len : L.length ≤ k
  le : k ≤ s.size
  left : scan s.data.toList = (L ++ (scan (s.data.toList.drop k)).1, (k : Int) + (scan (s.data.toList.drop k)).2)
def ScanPost (s : ByteArray) (w : World) (e : Ending) (w' : World) : Prop :=
  ∃ v, e = .returned (.tuple #[v, .int .i64 (scan s.data.toList).2]) ∧ w'.ownsRow w.heap.size 23 3 v (scan s.data.toList).1.length (cv (scan s.data.toList).1) ∧ Below w.heap.size w w'
theorem ScanAt.end_ {s : ByteArray} {w wr w' : World} {L : List Itm} {k : Nat} {v : Value} (h : ScanAt s w wr L k v) (hr : rdC (s.data.toList.drop k) ≠ 0) (hb : Below wr.heap.size wr w') : ScanPost s w (.returned (.tuple #[v, .int .i64 k])) w' := by
  have e := h.left
  rw [scan_no hr] at e
  have hs := h.below.size
  refine ⟨v, ?_, ?_, h.below.trans (hb.mono hs)⟩
  · rw [e]; simp
  · rw [e]
    have := Own.own_below h.own hb
    simpa using this
theorem ScanAt.step {s : ByteArray} {w wr w5 w1 : World} {L : List Itm} {k : Nat} {v v' : Value} (h : ScanAt s w wr L k v) (hr : rdC (s.data.toList.drop k) = 0) (hb : Below wr.heap.size wr w5)
    (ho : w1.ownsRow w.heap.size 23 3 v' (L.length + 1) (cv L ++ [.int .i64 (rdX (s.data.toList.drop k)).k, .int .i64 (rdX (s.data.toList.drop k)).a, .string (rdX (s.data.toList.drop k)).b])) (hg : w5.grownBy w1 v.ownBlock) :
    ScanAt s w w1 (L ++ [rdX (s.data.toList.drop k)]) (k + (rdN (s.data.toList.drop k)).toNat) v' := by
  have hs := h.below.size
  have hs5 := hb.size
  have e := h.left
  obtain ⟨_, hn⟩ := rd_some hr
  have hn0 := ln_range (s.data.toList.drop k)
  have hl := (rd_inv hr).2.1
  have hle := h.le
  have hlen := h.len
  rw [List.length_drop, size_list] at hl
  refine ⟨?_, ?_, ?_, ?_, ?_⟩
  · rw [List.length_append, cv_app]; exact ho
  · exact (h.below.trans (hb.mono hs)).grown hg (by omega) (fun k hk => (World.ownsRow.lt h.own k hk).1)
  · rw [List.length_append, List.length_singleton, hn]; omega
  · rw [hn]; omega
  · have dd : s.data.toList.drop (k + (14 + (ln (s.data.toList.drop k)).toNat)) = (s.data.toList.drop k).drop (14 + (ln (s.data.toList.drop k)).toNat) := by rw [List.drop_drop]
    rw [e, scan_ok hr, show (rdN (s.data.toList.drop k)).toNat = 14 + (ln (s.data.toList.drop k)).toNat by rw [hn]; omega, dd, List.append_assoc]
    refine Prod.ext rfl ?_
    show (k : Int) + (rdN (s.data.toList.drop k) + _) = ((k + (14 + (ln (s.data.toList.drop k)).toNat) : Nat) : Int) + _
    rw [hn]; omega

set_option maxRecDepth 100000 in
set_option maxHeartbeats 1000000 in
theorem scan_calls (s : ByteArray) (hs : s.size ≤ 1099511627776) (w : World) :
    Calls Try.prog 14 #[.string s] w (ScanPost s w) := by
  obtain ⟨i0, hi, hz0, hz1, hz2⟩ := info_parts info_item
  go_enter Try.func14, Try.ntmps14
  go_wp2_with fail
  go_step3
  go_wp2_with fail
  go_step3
  go_wp2_with fail
  go_loopw [4, 5] (fun v a wr => ∃ (L : List Itm) (k : Nat), a = .int .i64 k ∧ ScanAt s w wr L k v) (fun _ a _ => s.size - (intOf a).toNat)
  case atStart => exact ⟨[], 0, rfl, World.ownsRow_nil _ _ _ _, Below.refl _ _, by simp, by omega, by simp⟩
  case round =>
    obtain ⟨L, k, rfl, C⟩ := hrel
    have hle := C.le
    have hlen := C.len
    have hown := C.own
    have hsz := C.below.size
    obtain ⟨p, hps, hpl, hpw⟩ := from_of s k hle
    have k0 : (k : Int) ≤ 1099511627776 := by omega
    by_cases hr : rdC (s.data.toList.drop k) = 0
    · obtain ⟨_, hn⟩ := rd_some hr
      have hn0 := ln_range (s.data.toList.drop k)
      obtain ⟨n, hnn⟩ : ∃ n, rdN (s.data.toList.drop k) = n := ⟨_, rfl⟩
      obtain ⟨x, hxx⟩ : ∃ x, rdX (s.data.toList.drop k) = x := ⟨_, rfl⟩
      have HY := Lib.hid (read_yes p (by omega) (by rw [hpl]; exact hr) x n (by rw [hpl]; exact hxx) (by rw [hpl]; exact hnn))
      have hl := (rd_inv hr).2.1
      rw [List.length_drop, size_list] at hl
      have n0 : 0 ≤ n := by omega
      have n3 : n + k ≤ (s.size : Int) := by omega
      have n1 : n + k ≤ 1099511627776 := by omega
      have n2 : 14 ≤ n := by omega
      have HC := Lib.hid C
      have HR := Lib.hid hr
      have HN := Lib.hid hnn
      have HX := Lib.hid hxx
      have HO := Lib.hid hown
      clear C hr hnn hxx hown hl hn hn0 hpl
      go_wp2_with fail
      refine (HY.out _).mono ?_
      rintro e w5 ⟨rfl, hb5⟩
      have HB5 := Lib.hid hb5
      have h5 := hb5.size
      have ho5 := Own.own_below HO.out hb5
      clear hb5
      go_wp2_with (at_builtin; (refine Own.append_any rfl (.tmp 20) (.tmp 22) 33 rfl w.heap.size 23 i0 _ 3 32 Try.underlying33 hi hz0 hz1 hz2 rfl (by decide) _ _ _ rfl (World.ownsRow.alloc (World.ownsRow.alloc ho5 _) _) _ 1 1 [.int .i64 x.k, .int .i64 x.a, .string x.b] rfl (fun h => nomatch h) rfl (Own.three_new _ _ _ _ _ _ (by simp)) (by simp [Value.oneCell']) (by unfold maxLen; omega) (by omega) (by simp; omega) ?_; intro v' w1 hown1 hgrow1))
      have C1 := HC.out.step HR.out ((HB5.out.alloc h5 _).alloc (by simp; omega) _) (by rw [HX.out]; exact hown1) hgrow1
      rw [HX.out, HN.out] at C1
      have HC1 := Lib.hid C1
      clear C1 hown1 hgrow1 ho5
      go_wp2_with fail
      go_roundw
      case rel => exact ⟨_, _, by rw [show (k : Int) + n = ((k + n.toNat : Nat) : Int) by omega], HC1.out⟩
      case measure => simp [intOf]; omega
    · have HY := Lib.hid (read_no p (by omega) (by rw [hpl]; exact hr))
      rw [hpl] at HY
      have HC := Lib.hid C
      have HR := Lib.hid hr
      obtain ⟨c, hc⟩ : ∃ c, rdC (s.data.toList.drop k) = c := ⟨_, rfl⟩
      rw [hc] at HY hr
      have b3 : (c == 0) = false := by simpa using hr
      have b4 : (c != 0) = true := by simpa using hr
      clear C hc hown hpl hr
      go_wp2_with fail
      refine (HY.out _).mono ?_
      rintro e w5 ⟨rfl, hb5⟩
      have HB5 := Lib.hid hb5
      clear hb5
      go_wp2_with fail
      rw [Exit.noGoto_ret]
      go_ret2
      exact HC.out.end_ HR.out (HB5.out.alloc HB5.out.size _)
end Go.Proofs.Ytfdpmbnjjnmdiaa.Rec

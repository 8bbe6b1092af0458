/-
  Layer 12 (lex): unquote, quote, walked.
-/
import Derived.Test.YtabpkpeonbdinaaDoorLexBetw
import Derived.Test.YtabpkpeonbdinaaDoorOwnRow
namespace Go.Proofs.YtabpkpeonbdinaaDoor.Lex
open Go.RowKit Go.Proofs.YtabpkpeonbdinaaDoor.Own

theorem cut_from {P : Program} (t : TypeId) (ht : P.underlying t = some .string) (s : ByteArray) (i : Int) (h0 : 0 ≤ i) (h : i ≤ s.size) (W : World) :
    (Instr.sliceAt t (.string s) (some (.int .i64 i)) none none).run P W = .ok (.string (s.extract i.toNat s.size)) W := by
  rw [run_sliceAt_string W t _ _ _ _ ht, run_slice_string_from_if W t s .i64 i ht, if_pos ⟨h0, h⟩]
theorem cut_to {P : Program} (t : TypeId) (ht : P.underlying t = some .string) (s : ByteArray) (j : Int) (h0 : 0 ≤ j) (h : j ≤ s.size) (W : World) :
    (Instr.sliceAt t (.string s) none (some (.int .i64 j)) none).run P W = .ok (.string (s.extract 0 j.toNat)) W := by
  rw [run_sliceAt_string W t _ _ _ _ ht, run_slice_string_to_if W t s .i64 j ht, if_pos ⟨h0, h⟩]
theorem cut_mid {P : Program} (t : TypeId) (ht : P.underlying t = some .string) (s : ByteArray) (i j : Int) (h0 : 0 ≤ i) (h1 : i ≤ j) (h : j ≤ s.size) (W : World) :
    (Instr.sliceAt t (.string s) (some (.int .i64 i)) (some (.int .i64 j)) none).run P W = .ok (.string (s.extract i.toNat j.toNat)) W := by
  rw [run_sliceAt_string W t _ _ _ _ ht, run_slice_string W t s .i64 .i64 i j ht h0 h1 h]
theorem extract_list (s : ByteArray) (a b : Nat) : (s.extract a b).data.toList = (s.data.toList.drop a).take (b - a) := by
  obtain ⟨l, rfl⟩ : ∃ l : List UInt8, s = ⟨l.toArray⟩ := ⟨s.data.toList, by cases s; simp⟩
  rw [ByteArray.extract_mk]
/-- what is left of a text behind k bytes -/
theorem from_of (s : ByteArray) (k : Nat) (hk : k ≤ s.size) : ∃ p : ByteArray, p.size = s.size - k ∧ p.data.toList = s.data.toList.drop k ∧ ∀ W, (Instr.sliceAt 9 (.string s) (some (.int .i64 k)) none none).run Tryd.prog W = .ok (.string p) W :=
  ⟨s.extract (k : Int).toNat s.size, by simp [ByteArray.size_extract], by rw [extract_list, show (k : Int).toNat = k by omega, List.take_of_length_le (by rw [List.length_drop, list_size]; omega)], fun W => cut_from 9 Tryd.underlying9 s k (by omega) (by omega) W⟩
/-- the first k bytes of a text -/
theorem to_of (s : ByteArray) (k : Nat) (hk : k ≤ s.size) : ∃ p : ByteArray, p.size = k ∧ p.data.toList = s.data.toList.take k ∧ ∀ W, (Instr.sliceAt 9 (.string s) none (some (.int .i64 k)) none).run Tryd.prog W = .ok (.string p) W :=
  ⟨s.extract 0 (k : Int).toNat, by simp [ByteArray.size_extract]; omega, by rw [extract_list]; simp, fun W => cut_to 9 Tryd.underlying9 s k (by omega) (by omega) W⟩

/-- a range over a text stands at a byte; its block is it -/
structure AtB (s : ByteArray) (B it : Nat) (w wr : World) (pos : Nat) : Prop where
  le : pos ≤ s.size
  blk : wr.heap[it]? = some (.stringIter s pos)
  below : Below B w wr
  ge : B ≤ it
theorem AtB.next {s : ByteArray} {w wr : World} {B it pos R K : Nat} (h : AtB s B it w wr pos) {hp : pos < s.size} (g : Sign s pos R K hp) : AtB s B it w (wr.iterAt it s (pos + K)) (pos + K) :=
  ⟨g.le, Lib.iterAt_heap _ _ _ _ _ h.blk, Lib.below_iterAt h.below h.ge _ _, h.ge⟩
theorem AtB.pos {s : ByteArray} {w wr : World} {B it pos : Nat} (h : AtB s B it w wr pos) : wr.iterPos it = pos := iterPos_of h.blk
theorem AtB.lt {s : ByteArray} {w wr : World} {B it pos : Nat} (h : AtB s B it w wr pos) : it < wr.heap.size := at_lt h.blk
theorem AtB.alloc {s : ByteArray} {w wr : World} {B it pos : Nat} (h : AtB s B it w wr pos) (o : Obj) : AtB s B it w (wr.alloc o) pos :=
  ⟨h.le, at_old _ _ h.blk, h.below.alloc (by have := h.ge; have := h.lt; omega) _, h.ge⟩

/-- a []byte of the call's own that holds l -/
def Byt (w : World) (B : Nat) (v : Value) (l : List UInt8) : Prop := w.ownsRow B 5 1 v l.length (bv l)
theorem Byt.iterAt {w : World} {B : Nat} {v : Value} {l : List UInt8} {k : Nat} {s : ByteArray} {pos : Nat} (h : Byt w B v l) (hk : w.heap[k]? = some (.stringIter s pos)) (pos' : Nat) : Byt (w.iterAt k s pos') B v l := by
  refine ⟨h.1, ?_⟩
  rcases h.2 with h0 | ⟨g, cap, cur, hv, hb, hg, rest⟩
  · exact .inl h0
  · refine .inr ⟨g, cap, cur, hv, hb, ?_, rest⟩
    rw [Lib.iterAt_other _ _ _ _ _ (fun e => by subst e; rw [hk] at hg; cases hg)]
    exact hg
theorem own_ne_iter {w : World} {B e size n : Nat} {v : Value} {xs : List Value} {k : Nat} {s : ByteArray} {pos : Nat} (h : w.ownsRow B e size v n xs) (hk : w.heap[k]? = some (.stringIter s pos)) : some k ≠ v.ownBlock := by
  rcases h.2 with ⟨rfl, _⟩ | ⟨g, cap, cur, rfl, hb, hg, rest⟩
  · simp [Value.ownBlock]
  · intro e
    simp only [Value.ownBlock, Option.some.injEq] at e
    subst e
    rw [hk] at hg
    cases hg
theorem Byt.text {w : World} {B : Nat} {v : Value} {l : List UInt8} (h : Byt w B v l) : (convert 58 9 v).run Tryd.prog w = .ok (.string ⟨l.toArray⟩) w := by
  have hc := @World.ownsRow.cells _ _ _ _ _ _ _ h
  rcases h.2 with ⟨rfl, h0⟩ | ⟨g, cap, cur, rfl, r⟩
  · obtain rfl : l = [] := List.eq_nil_of_length_eq_zero h0
    exact run_convert_bytes_nil w 58 5 Tryd.underlying58 Tryd.underlying5 0 0 9 Tryd.underlying9
  · refine run_convert_bytes_back w 58 9 5 ⟨g, 0, none⟩ cap l Tryd.underlying58 Tryd.underlying5 Tryd.underlying9 (fun j hj => ?_)
    exact hc rfl j _ (by rw [bv_get, List.getElem?_eq_getElem hj]; rfl)
theorem Byt.byte {w : World} {B : Nat} {v : Value} {o : List UInt8} {c : UInt8} {R : Nat} (hR : R = c.toNat) (h : w.ownsRow B 5 1 v (o.length + 1) (bv o ++ [Value.int .u8 (R : Int)])) : Byt w B v (o ++ [c]) := by
  subst hR
  unfold Byt
  rw [List.length_append, bv_app]
  exact h
/-- behind an append the range stands where it stood -/
theorem AtB.grown {s : ByteArray} {w wr w1 : World} {B it pos : Nat} {v : Value} {l : List UInt8} {B' : Nat} (h : AtB s B it w wr pos) (ho : Byt wr B' v l) (hB : B ≤ B') {o : Obj} (hg : (wr.alloc o).grownBy w1 v.ownBlock) : AtB s B it w w1 pos := by
  have h5 := h.alloc o
  refine ⟨h.le, (hg.block it h5.lt (own_ne_iter ho h.blk)).trans h5.blk, ?_, h.ge⟩
  exact h5.below.grown hg (by have := h5.lt; have := h5.ge; omega) (fun k hk => Nat.le_trans hB (World.ownsRow.lt ho k hk).1)
theorem one_new (w : World) (x : Value) (T : TypeId) (g : Nat) (hg : g = w.heap.size) : ∀ ad, some (⟨g, 0, none⟩ : Addr) = some ad → ∀ j u, [x][j]? = some u → (w.alloc (.cells #[x] T (0, 0))).cell? (ad.add j) = some u := by
  subst hg
  rintro ad ⟨⟩ j u hu
  rw [add0, at_cell (at_new w _)]
  simpa using hu
theorem info_u8 : (Tryd.prog.info? 5).map (fun i => (i.zero, i.size, i.bytes)) = some (some (.int .u8 0), 1, 1) := by kernel_rfl

def UnqPost (s : ByteArray) (w : World) (e : Ending) (w' : World) : Prop :=
  ∃ (t : List UInt8) (n : Nat), e = .returned (.tuple #[.string ⟨t.toArray⟩, .int .i64 n]) ∧ Below w.heap.size w w' ∧ (unq false (s.data.toList.drop 1) = none ∧ n = 0 ∨ ∃ m, unq false (s.data.toList.drop 1) = some (t, m) ∧ n = m + 1)

structure UnqAt (p : ByteArray) (w wr : World) (b : Bool) (pos : Nat) (acc : List UInt8) (v : Value) : Prop where
  at_ : AtB p w.heap.size w.heap.size w wr pos
  own : Byt wr (w.heap.size + 1) v acc
  len : acc.length ≤ pos
  left : unq false p.data.toList = (unq b (p.data.toList.drop pos)).map fun x => (acc ++ x.1, pos + x.2)
theorem UnqAt.none_ {s p : ByteArray} {w wr w' : World} {b : Bool} {pos : Nat} {acc : List UInt8} {v : Value} (h : UnqAt p w wr b pos acc v) (hp : p.data.toList = s.data.toList.drop 1) (hn : unq b (p.data.toList.drop pos) = none) (hb : Below w.heap.size w w') : UnqPost s w (.returned (.tuple #[.string ⟨#[]⟩, .int .i64 0])) w' :=
  ⟨[], 0, rfl, hb, .inl ⟨by rw [← hp, h.left, hn]; rfl, rfl⟩⟩

theorem UnqAt.push {p : ByteArray} {w wr W w1 : World} {b : Bool} {pos R : Nat} {acc : List UInt8} {v v' : Value} {c : UInt8} {o : Obj} (h : UnqAt p w wr b pos acc v) (hl : unq b (p.data.toList.drop pos) = (unq false (p.data.toList.drop (pos + 1))).map fun x => (c :: x.1, x.2 + 1))
    (hat : AtB p w.heap.size w.heap.size w W (pos + 1)) (ho : Byt W (w.heap.size + 1) v acc) (hR : R = c.toNat) (hown : w1.ownsRow (w.heap.size + 1) 5 1 v' (acc.length + 1) (bv acc ++ [Value.int .u8 (R : Int)])) (hg : (W.alloc o).grownBy w1 v.ownBlock) : UnqAt p w w1 false (pos + 1) (acc ++ [c]) v' :=
  ⟨hat.grown ho (Nat.le_succ _) hg, Byt.byte hR hown, by have := h.len; rw [List.length_append, List.length_singleton]; omega, by
    rw [h.left, hl, Option.map_map]; congr 1; funext x; simp; omega⟩

set_option maxRecDepth 100000 in
set_option maxHeartbeats 4000000 in
theorem unquote_calls (s : ByteArray) (h1 : 1 ≤ s.size) (hs : s.size ≤ 1099511627776) (w : World) :
    Calls Tryd.prog 39 #[.string s] w (UnqPost s w) := by
  obtain ⟨i0, hi, hz0, hz1, hz2⟩ := info_parts info_u8
  obtain ⟨p, hps, hpl, hpw⟩ := from_of s 1 h1
  have hpw1 : ∀ W, (Instr.sliceAt 9 (.string s) (some (.int .i64 1)) none none).run Tryd.prog W = .ok (.string p) W := hpw
  have HP := Lib.hid hpl
  clear hpl hpw
  go_enter Tryd.func39, Tryd.ntmps39
  go_wp2_with fail
  go_loopw [4, 5] (fun v n wr => ∃ (b : Bool) (pos : Nat) (acc : List UInt8), n = .bool b ∧ UnqAt p w wr b pos acc v) (fun _ _ wr => p.size - wr.iterPos w.heap.size)
  case atStart => exact ⟨false, 0, [], rfl, ⟨Nat.zero_le _, World.iter_heap w p 0, (Below.refl _ _).alloc (Nat.le_refl _) _, Nat.le_refl _⟩, World.ownsRow_nil _ _ _ _, Nat.le_refl _, by simp⟩
  case round =>
    obtain ⟨b, pos, acc, rfl, hA⟩ := hrel
    rename World => wr
    have hle := hA.at_.le
    have hm := hA.at_.pos
    have hacc := hA.len
    by_cases hp : pos < p.size
    · obtain ⟨R, K, hg⟩ := sign_of p pos hp
      have hnx := fun ty => hg.next hA.at_.blk ty
      have hat := hA.at_.next hg
      have HA2 := Lib.hid hat
      have HO := Lib.hid (hA.own.iterAt hA.at_.blk (pos + K))
      have HL := Lib.hid hg.low
      have HH := Lib.hid hg.high
      have HD := Lib.hid (drop_at p pos hp)
      have HA := Lib.hid hA
      generalize wr.iterAt w.heap.size p (pos + K) = W at *
      clear hA hg hat
      obtain ⟨c, hc⟩ : ∃ c, p[pos] = c := ⟨_, rfl⟩
      rw [hc] at HL HH HD
      clear hc
      by_cases hq : qb R = true
      · have hq2 := (qb_iff _).1 hq
        have hlow : c.toNat < 128 := by
          by_cases h : c.toNat < 128
          · exact h
          · have := (HH.out (by omega)).1; omega
        obtain ⟨hR, hK⟩ := HL.out hlow
        subst hK
        have HC := Lib.hid hR
        have hlt : R < 128 := by omega
        have hqc : qb c.toNat = true := by rw [← hR]; exact hq
        clear HL HH hR hlow hq2
        have hwrap : IntKind.u8.wrap (R : Int) = R := by
          simp [IntKind.wrap, IntKind.bits, IntKind.signed]; omega
        cases b
        · by_cases h92 : R = 92
          · subst h92
            have HN := Lib.hid (show UnqAt p w W true (pos + 1) acc _ from ⟨HA2.out, HO.out, by omega, by rw [HA.out.left, HD.out, unq_slash HC.out.symm, Option.map_map]; congr 1; funext x; simp; omega⟩)
            clear HC hqc
            go_wp2_with (go_at_call 56; refine (quotable_calls 92 _).mono ?_; rintro e w' ⟨rfl, rfl⟩; rw [hq])
            go_roundw
            case rel => exact ⟨true, pos + 1, acc, rfl, HN.out⟩
            case measure => rw [HA2.out.pos, hm]; omega
          · have b92 : ((R : Int) == 92) = false := by simp; omega
            by_cases h34 : R = 34
            · subst h34
              have HN := Lib.hid (show unq false p.data.toList = some (acc, pos + 1) by rw [HA.out.left, HD.out, unq_end HC.out.symm]; simp)
              have htx := HO.out.text
              have k0 : (pos : Int) ≤ 1099511627776 := by omega
              clear HC hqc h92
              go_wp2_with (go_at_call 56; refine (quotable_calls 34 _).mono ?_; rintro e w' ⟨rfl, rfl⟩; rw [hq])
              go_ret2
              exact ⟨acc, pos + 2, rfl, HA2.out.below, .inr ⟨pos + 1, by rw [← HP.out]; exact HN.out, rfl⟩⟩
            · have b34 : ((R : Int) == 34) = false := by simp; omega
              have heb : eb c.toNat = false := by rw [← HC.out]; simp [eb, h34, h92]
              have HPL := Lib.hid (show unq false (p.data.toList.drop pos) = (unq false (p.data.toList.drop (pos + 1))).map fun x => (c :: x.1, x.2 + 1) by rw [HD.out, unq_plain hqc heb])
              have ho := HO.out
              have hlt5 := HA2.out.lt
              go_wp2_with (first
                | (go_at_call 56; refine (quotable_calls R _).mono ?_; rintro e w' ⟨rfl, rfl⟩; rw [hq])
                | (at_builtin; refine Own.append_any rfl (.tmp 15) (.tmp 18) 58 rfl (w.heap.size + 1) 5 i0 _ 1 1 Tryd.underlying58 hi hz0 hz1 hz2 rfl (by decide) _ _ _ rfl (World.ownsRow.alloc ho _) _ 1 1 [.int .u8 (R : Int)] rfl (fun h => nomatch h) rfl (one_new _ _ _ _ (by simp)) (by simp [Value.oneCell']) (by unfold maxLen; omega) (by omega) (by simp; omega) ?_; intro v' w1 hown1 hgrow1; have HN := Lib.hid (HA.out.push HPL.out HA2.out ho HC.out hown1 hgrow1); clear hown1 hgrow1))
              go_roundw
              case rel => exact ⟨false, pos + 1, _, rfl, HN.out⟩
              case measure => rw [HN.out.at_.pos, hm]; omega
        · cases heb : eb R
          · have HN := Lib.hid (show unq true (p.data.toList.drop pos) = none by rw [HD.out]; exact unq_lone (by rw [← HC.out]; exact heb) _)
            clear HC hqc
            go_wp2_with (first
              | (go_at_call 56; refine (quotable_calls R _).mono ?_; rintro e w' ⟨rfl, rfl⟩; rw [hq])
              | (go_at_call 57; refine (escaped_calls R _).mono ?_; rintro e w' ⟨rfl, rfl⟩; rw [heb]))
            go_ret2
            exact HA.out.none_ HP.out HN.out HA2.out.below
          · have HPL := Lib.hid (show unq true (p.data.toList.drop pos) = (unq false (p.data.toList.drop (pos + 1))).map fun x => (c :: x.1, x.2 + 1) by rw [HD.out, unq_esc (by rw [← HC.out]; exact heb)])
            have ho := HO.out
            have hlt5 := HA2.out.lt
            go_wp2_with (first
                | (go_at_call 56; refine (quotable_calls R _).mono ?_; rintro e w' ⟨rfl, rfl⟩; rw [hq])
                | (go_at_call 57; refine (escaped_calls R _).mono ?_; rintro e w' ⟨rfl, rfl⟩; rw [heb])
                | (at_builtin; refine Own.append_any rfl (.tmp 15) (.tmp 18) 58 rfl (w.heap.size + 1) 5 i0 _ 1 1 Tryd.underlying58 hi hz0 hz1 hz2 rfl (by decide) _ _ _ rfl (World.ownsRow.alloc ho _) _ 1 1 [.int .u8 (R : Int)] rfl (fun h => nomatch h) rfl (one_new _ _ _ _ (by simp)) (by simp [Value.oneCell']) (by unfold maxLen; omega) (by omega) (by simp; omega) ?_; intro v' w1 hown1 hgrow1; have HN := Lib.hid (HA.out.push HPL.out HA2.out ho HC.out hown1 hgrow1); clear hown1 hgrow1))
            go_roundw
            case rel => exact ⟨false, pos + 1, _, rfl, HN.out⟩
            case measure => rw [HN.out.at_.pos, hm]; omega
      · have hq' : qb R = false := by simpa using hq
        have hqc : qb c.toNat = false := by
          by_cases h : c.toNat < 128
          · rw [← (HL.out h).1]; exact hq'
          · simp [qb]; omega
        have HN := Lib.hid (show unq b (p.data.toList.drop pos) = none by rw [HD.out]; exact unq_bad hqc _ _)
        clear HL HH hq hqc
        go_wp2_with (go_at_call 56; refine (quotable_calls R _).mono ?_; rintro e w' ⟨rfl, rfl⟩; rw [hq'])
        go_ret2
        exact HA.out.none_ HP.out HN.out HA2.out.below
    · have hnx := fun ty => Lib.run_next_end_at (P := Tryd.prog) wr w.heap.size p pos ty hA.at_.blk hp
      have HA := Lib.hid hA
      have HN := Lib.hid (show unq b (p.data.toList.drop pos) = none by rw [drop_all p (by omega)]; exact unq_nil b)
      clear hA
      go_wp2_with fail
      go_ret2
      exact HA.out.none_ HP.out HN.out HA.out.at_.below
end Go.Proofs.YtabpkpeonbdinaaDoor.Lex

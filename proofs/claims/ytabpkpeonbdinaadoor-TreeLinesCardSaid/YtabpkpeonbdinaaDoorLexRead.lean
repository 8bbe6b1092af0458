/-
  Layer 12 (lex): Read, walked.
-/
import Derived.Test.YtabpkpeonbdinaaDoorLexFirst
import Derived.Test.YtabpkpeonbdinaaDoorLexPut
import Derived.Test.YtabpkpeonbdinaaDoorErfLine
import Derived.Test.YtabpkpeonbdinaaDoorOwnRow
namespace Go.Proofs.YtabpkpeonbdinaaDoor.Lex
open Go.RowKit Go.Proofs.YtabpkpeonbdinaaDoor.Own

theorem skn_le (l : List UInt8) (b : Bool) : skn b l ≤ skip b l := by
  rw [skn_count]
  exact Nat.le_trans List.count_le_length (by rw [List.length_take]; omega)
def lenOf : Value → Nat
  | .string s => s.size
  | _ => 0
/-- pieces as cells -/
def pv (l : List Pc) : List Value := l.flatMap fun x => [.int .i64 x.kind, .string ⟨x.text.toArray⟩, .int .i64 x.line]
theorem pv_len (l : List Pc) : (pv l).length = l.length * 3 := by
  induction l with
  | nil => rfl
  | cons e r ih => simp [pv] at ih ⊢; omega
theorem pv_app (l m : List Pc) : pv (l ++ m) = pv l ++ pv m := by simp [pv]
theorem pv_get {l : List Pc} {i : Nat} (h : i < l.length) : (pv l)[i * 3]? = some (.int .i64 l[i].kind) ∧ (pv l)[i * 3 + 1]? = some (.string ⟨l[i].text.toArray⟩) ∧ (pv l)[i * 3 + 2]? = some (.int .i64 l[i].line) := by
  induction l generalizing i with
  | nil => simp at h
  | cons e r ih =>
    cases i with
    | zero => simp [pv]
    | succ i =>
      have := ih (i := i) (by simpa using h)
      simpa [pv, Nat.add_mul] using this
theorem own_form {w : World} {B e n size : Nat} {v : Value} {xs : List Value} (h : w.ownsRow B e size v n xs) : ∃ p c, v = .slice p n c := by
  rcases h.2 with ⟨rfl, h0⟩ | ⟨g, cap, cur, rfl, _⟩
  · exact ⟨none, 0, by rw [show n = 0 from h0]⟩
  · exact ⟨_, _, rfl⟩
theorem info_piece : (Tryd.prog.info? 67).map (fun i => (i.zero, i.size, i.bytes)) = some (some (.agg #[.int .i64 0, .string ⟨#[]⟩, .int .i64 0]), 3, 32) := by kernel_rfl
theorem count_calls (p : ByteArray) (n : Nat) (h : p.data.toList.count 10 = n) (w : World) : Calls Tryd.prog 22 #[.string p, .string ⟨#[10]⟩] w fun e w' => e = .returned (.int .i64 n) ∧ w' = w := by
  have := Tryd.strings_Count_one p 10 w
  rw [show Lib.countByte p.data.toList 10 = (n : Int) by rw [← h]; rfl] at this
  exact this

/-- what Read answers, in memory -/
structure ReadRes (r : Res) (w w' : World) (v u : Value) : Prop where
  own : w'.ownsRow w.heap.size 67 3 v r.pcs.length (pv r.pcs)
  below : Below w.heap.size w w'
  err : ∃ lay, Flt.ErrN w' w'.heap.size u lay r.code ∧ Flt.lineOf lay = r.line ∧ lay.length ≤ 1
  none : r.code = 0 → u = .nilIface
  some : r.code ≠ 0 → ∃ t x, u = .iface t x
def ReadPost (s : ByteArray) (w : World) (e : Ending) (w' : World) : Prop := ∃ v u, e = .returned (.tuple #[v, u]) ∧ ReadRes (total s.data.toList) w w' v u
theorem res_err {w W : World} (hb : Below w.heap.size w W) {c n : Int} (hc : c ≠ 0) (hn : 0 ≤ n) (g : Nat) (hg : g = W.heap.size) :
    ReadRes (.err c n) w (W.alloc (.cells #[.int .i64 n, .string ⟨#[]⟩, .iface 52 (.int .i64 c)] 51)) (.slice none 0 0) (.iface 49 (.pointer (some ⟨g, 0, none⟩))) := by
  subst hg
  exact ⟨World.ownsRow_nil _ _ _ _, hb.alloc hb.size _, ⟨[⟨W.heap.size, n, []⟩], .inr (by
      have := Flt.Err.wrap (w := W) (N := W.heap.size) (v := .iface 52 (.int .i64 c)) (l := []) (c := c) rfl (Nat.le_refl _) n ⟨#[]⟩
      rw [show (W.alloc (.cells #[.int .i64 n, .string ⟨#[]⟩, .iface 52 (.int .i64 c)] 51)).heap.size = W.heap.size + 1 by simp]
      exact this), by
      show (if 0 < n then n else 0) = n
      split <;> omega, Nat.le_refl _⟩, fun h => absurd h hc, fun _ => ⟨_, _, rfl⟩⟩
theorem res_ok {w W : World} (hb : Below w.heap.size w W) {acc : List Pc} {v : Value} (ho : W.ownsRow w.heap.size 67 3 v acc.length (pv acc)) : ReadRes (.ok acc) w W v .nilIface :=
  ⟨ho, hb, ⟨[], .inl ⟨rfl, rfl, rfl⟩, rfl, Nat.zero_le _⟩, fun _ => rfl, fun h => absurd rfl h⟩

/-- pieces found, and what is left to read -/
structure ReadAt (s : ByteArray) (w wr : World) (acc : List Pc) (rest : ByteArray) (line : Int) (v : Value) : Prop where
  own : wr.ownsRow w.heap.size 67 3 v acc.length (pv acc)
  below : Below w.heap.size w wr
  size : acc.length + rest.size ≤ s.size
  one : 1 ≤ line
  top : line + rest.size ≤ 1 + s.size
  left : ∃ f, rest.size < f ∧ read f acc (rest.data.toList.drop (skip false rest.data.toList)) (line + skn false rest.data.toList) = total s.data.toList
theorem ReadAt.step {s : ByteArray} {w wr w5 w1 : World} {acc : List Pc} {rest r : ByteArray} {line : Int} {v v' : Value} (h : ReadAt s w wr acc rest line v) {a m n : Nat} (ha : skip false rest.data.toList = a) (hm : skn false rest.data.toList = m) (hal : acc.length ≠ 8192)
    {k : Int} {t : List UInt8} (hf : first (rest.data.toList.drop a) = Option.some (k, t, n)) (hr : r.data.toList = (rest.data.toList.drop a).drop n) (hb : Below wr.heap.size wr w5)
    (ho : w1.ownsRow w.heap.size 67 3 v' (acc.length + 1) (pv acc ++ [.int .i64 k, .string ⟨t.toArray⟩, .int .i64 (line + m)])) (hg : w5.grownBy w1 v.ownBlock) :
    ReadAt s w w1 (acc ++ [⟨k, t, line + m⟩]) r (line + m) v' ∧ r.size < rest.size := by
  have hs := h.below.size
  have hs5 := hb.size
  have hfl := first_le hf
  have hsz := h.size
  have htop := h.top
  have hone := h.one
  have hma : m ≤ a := by rw [← hm, ← ha]; exact skn_le _ _
  have hrs : r.size = rest.size - a - n := by
    have := congrArg List.length hr
    rw [list_size, List.length_drop, List.length_drop, list_size] at this
    exact this
  have hfl2 := hfl.2
  rw [List.length_drop, list_size] at hfl2
  refine ⟨⟨?_, ?_, ?_, ?_, ?_, ?_⟩, by omega⟩
  · rw [List.length_append, pv_app]; exact ho
  · exact (h.below.trans (hb.mono hs)).grown hg (by omega) (fun k hk => (World.ownsRow.lt h.own k hk).1)
  · rw [List.length_append, List.length_singleton]; omega
  · omega
  · omega
  · obtain ⟨f, hf1, hf2⟩ := h.left
    obtain ⟨f', rfl⟩ : ∃ f', f = f' + 1 := ⟨f - 1, by omega⟩
    refine ⟨f', by omega, ?_⟩
    rw [← hf2, ha, hm, read_some f' (by intro e; rw [e] at hf; cases hf) hal hf, hr]

set_option maxRecDepth 100000 in
set_option maxHeartbeats 4000000 in
theorem read_calls (s : ByteArray) (w : World) :
    Calls Tryd.prog 11 #[.string s] w (ReadPost s w) := by
  obtain ⟨i0, hi, hz0, hz1, hz2⟩ := info_parts info_piece
  by_cases hbig : 65536 < s.size
  · have HT := Lib.hid (total_big (l := s.data.toList) hbig)
    have q1 : (65536 : Int) < (s.size : Int) := by omega
    clear hbig
    go_enter Tryd.func11, Tryd.ntmps11
    go_wp2_with (go_at_call 20; refine (Flt.new_some 5 0 ⟨#[]⟩ (by decide) _).mono ?_; rintro e w5 ⟨rfl, rfl⟩)
    go_ret2
    exact ⟨_, _, rfl, by rw [HT.out]; exact res_err (c := 5) (n := 0) (Below.refl _ _) (by decide) (by decide) _ rfl⟩
  · have HT := Lib.hid (total_fit (l := s.data.toList) hbig)
    have hs : s.size ≤ 65536 := by omega
    have q1 : ¬ (65536 : Int) < (s.size : Int) := by omega
    clear hbig
    go_enter Tryd.func11, Tryd.ntmps11
    go_wp2_with fail
    go_loopw [0, 4, 5] (fun sv v lv wr => ∃ (acc : List Pc) (rest : ByteArray) (line : Int), sv = .string rest ∧ lv = .int .i64 line ∧ ReadAt s w wr acc rest line v) (fun sv _ _ _ => lenOf sv)
    case atStart => exact ⟨[], s, 1, rfl, rfl, World.ownsRow_nil _ _ _ _, Below.refl _ _, by simp, by omega, by omega, ⟨s.size + 1, by omega, by rw [HT.out]; rfl⟩⟩
    case round =>
      obtain ⟨acc, rest, line, rfl, rfl, C⟩ := hrel
      rename World => wr
      have hown := C.own
      have hsz := C.size
      have hone := C.one
      have htop := C.top
      have hbs := C.below.size
      have HC := Lib.hid C
      clear C
      obtain ⟨a, ha⟩ : ∃ a, skip false rest.data.toList = a := ⟨_, rfl⟩
      obtain ⟨m, hm⟩ : ∃ m, skn false rest.data.toList = m := ⟨_, rfl⟩
      have hal : a ≤ rest.size := by rw [← ha]; exact Nat.le_trans (skip_le _ _) (Nat.le_of_eq (list_size rest))
      have hma : m ≤ a := by rw [← hm, ← ha]; exact skn_le _ _
      obtain ⟨p, hps, hpl, hpw⟩ := to_of rest a hal
      obtain ⟨q, hqs, hql, hqw⟩ := from_of rest a hal
      have HBt := Lib.hid (between_calls rest)
      rw [ha] at HBt
      have HCt := Lib.hid (count_calls p m (by rw [hpl, ← hm, skn_count, ha]))
      have HA := Lib.hid ha
      have HM := Lib.hid hm
      have HQ := Lib.hid hql
      have HO := Lib.hid hown
      obtain ⟨vp, vc, rfl⟩ := own_form hown
      have k1 : line + m ≤ 65537 := by omega
      clear ha hm hpl hql hown
      by_cases hq0 : q.size = 0
      · obtain rfl := empty_of hq0
        have HTT := Lib.hid (show total s.data.toList = .ok acc by
          obtain ⟨f, hf1, hf2⟩ := HC.out.left
          obtain ⟨f', rfl⟩ : ∃ f', f = f' + 1 := ⟨f - 1, by omega⟩
          rw [← hf2, HA.out, ← HQ.out]; exact read_nil _ _ _)
        go_wp2_with (first
          | (go_at_call 21; refine (HBt.out _).mono ?_; rintro e w5 ⟨rfl, hb⟩; have HB5 := Lib.hid hb; clear hb)
          | (go_at_call 22; refine (HCt.out _).mono ?_; rintro e w6 ⟨rfl, rfl⟩))
        go_ret2
        exact ⟨_, _, rfl, by rw [HTT.out]; exact res_ok (HC.out.below.trans (HB5.out.mono HC.out.below.size)) (Own.own_below HO.out HB5.out)⟩
      · have hne : q.toList.isEmpty = false := by
          rw [ByteArray.toList_eq]
          cases h : q.data.toList with
          | nil => exact absurd h (full_of hq0)
          | cons a r => rfl
        have hne2 : (q.toList == []) = false := by
          cases h : q.toList with
          | nil => rw [h] at hne; cases hne
          | cons a r => rfl
        have HNE := Lib.hid (full_of hq0)
        by_cases h8 : acc.length = 8192
        · have b8 : ((acc.length : Int) == 8192) = true := by simp [h8]
          have HTT := Lib.hid (show total s.data.toList = .err 15 (line + m) by
            obtain ⟨f, hf1, hf2⟩ := HC.out.left
            obtain ⟨f', rfl⟩ : ∃ f', f = f' + 1 := ⟨f - 1, by omega⟩
            rw [← hf2, HA.out, HM.out, ← HQ.out]; exact read_many _ HNE.out h8 _)
          clear h8
          go_wp2_with (first
            | (go_at_call 21; refine (HBt.out _).mono ?_; rintro e w5 ⟨rfl, hb⟩; have HB5 := Lib.hid hb; clear hb)
            | (go_at_call 22; refine (HCt.out _).mono ?_; rintro e w6 ⟨rfl, rfl⟩)
            | (go_at_call 20; refine (Flt.new_some 15 _ ⟨#[]⟩ (by decide) _).mono ?_; rintro e w5 ⟨rfl, rfl⟩))
          go_ret2
          exact ⟨_, _, rfl, by rw [HTT.out]; exact res_err (c := 15) (n := line + m) (HC.out.below.trans (HB5.out.mono HC.out.below.size)) (by decide) (by omega) _ rfl⟩
        · have b8 : ((acc.length : Int) == 8192) = false := by simp; omega
          have HFC := Lib.hid (first_calls q (by omega) (by omega))
          have H8 := Lib.hid h8
          clear h8
          go_wp2_with (first
            | (go_at_call 21; refine (HBt.out _).mono ?_; rintro e w5 ⟨rfl, hb⟩; have HB5 := Lib.hid hb; have h5 := hb.size; have ho5 := Own.own_below HO.out hb; clear hb)
            | (go_at_call 22; refine (HCt.out _).mono ?_; rintro e w6 ⟨rfl, rfl⟩))
          refine (HFC.out _).mono ?_
          rintro e w7 ⟨k, t, n, rfl, hb7, hx⟩
          have HB7 := Lib.hid (HB5.out.trans (hb7.mono h5))
          have h7 := HB7.out.size
          have ho7 := Own.own_below ho5 hb7
          clear hb7 ho5
          rcases hx with ⟨hf, hn⟩ | ⟨hf, hn⟩
          · subst hn
            have HTT := Lib.hid (show total s.data.toList = .err 3 (line + m) by
              obtain ⟨f, hf1, hf2⟩ := HC.out.left
              obtain ⟨f', rfl⟩ : ∃ f', f = f' + 1 := ⟨f - 1, by omega⟩
              rw [← hf2, HA.out, HM.out, ← HQ.out]; exact read_bad _ HNE.out H8.out hf _)
            clear hf
            go_wp2_with (go_at_call 20; refine (Flt.new_some 3 _ ⟨#[]⟩ (by decide) _).mono ?_; rintro e w5 ⟨rfl, rfl⟩)
            go_ret2
            exact ⟨_, _, rfl, by rw [HTT.out]; exact res_err (c := 3) (n := line + m) ((HC.out.below.trans (HB7.out.mono HC.out.below.size)).alloc (by omega) _) (by decide) (by omega) _ (by simp)⟩
          · have hfl := (first_le hf).2
            rw [list_size] at hfl
            obtain ⟨r, hrs, hrl, hrw⟩ := from_of q n hfl
            have bn : ((n : Int) == 0) = false := by simp; omega
            have HF := Lib.hid (show first (rest.data.toList.drop a) = some (k, t, n) by rw [← HQ.out]; exact hf)
            have HR := Lib.hid (show r.data.toList = (rest.data.toList.drop a).drop n by rw [← HQ.out]; exact hrl)
            clear hf hrl
            go_wp2_with (at_builtin; refine Own.append_any rfl (.tmp 43) (.tmp 45) 39 rfl w.heap.size 67 i0 _ 3 32 Tryd.underlying39 hi hz0 hz1 hz2 rfl (by decide) _ _ _ rfl (World.ownsRow.alloc (World.ownsRow.alloc ho7 _) _) _ 1 1 [.int .i64 k, .string ⟨t.toArray⟩, .int .i64 (line + m)] rfl (fun h => nomatch h) rfl (Own.three_new _ _ _ _ _ _ (by simp)) (by simp [Value.oneCell']) (by unfold maxLen; omega) (by omega) (by simp; omega) ?_; intro v' w1 hown1 hgrow1; have C1 := Lib.hid (HC.out.step HA.out HM.out H8.out HF.out HR.out ((HB7.out.alloc h7 _).alloc (by simp; omega) _) hown1 hgrow1); clear hown1 hgrow1 ho7)
            go_roundw
            case rel => exact ⟨_, r, _, rfl, rfl, C1.out.1⟩
            case measure => exact C1.out.2
end Go.Proofs.YtabpkpeonbdinaaDoor.Lex

/-
  Layer 9 (fault): what an error says, walked: join, Text, Error.
-/
import Derived.Test.YtpjjfcgebgejaaaDoorFltLine
import Derived.Test.YtpjjfcgebgejaaaDoorShelf
namespace Go.Proofs.YtpjjfcgebgejaaaDoor.Flt
open Go.RowKit Go.Proofs.YtpjjfcgebgejaaaDoor.Own Go.Proofs.YtpjjfcgebgejaaaDoor.Digit

/-- what tells: a fault's place, its text, a Kind -/
inductive Tlr where
  | plc (b : Nat)
  | abt (b : Nat)
  | knd (c : Int)
def tv : Tlr → Value
  | .plc b => .func (.func 25) #[.pointer (some ⟨b, 0, none⟩)] #[]
  | .abt b => .func (.func 26) #[.pointer (some ⟨b, 0, none⟩)] #[]
  | .knd c => .func (.func 20) #[.int .i64 c] #[]
/-- what it tells -/
def Tells (w : World) (N : Nat) : Tlr → List UInt8 → Prop
  | .plc b, s => b < N ∧ ∃ n x u, w.heap[b]? = some (.cells #[.int .i64 n, x, u] 43 (0, 0)) ∧ -9223372036854775808 ≤ n ∧ n ≤ 9223372036854775807 ∧ s = placeL n
  | .abt b, s => b < N ∧ ∃ n u, w.heap[b]? = some (.cells #[n, .string ⟨s.toArray⟩, u] 43 (0, 0))
  | .knd c, s => -9223372036854775808 ≤ c ∧ c ≤ 9223372036854775807 ∧ s = wordL c
theorem Tells.below {w w' : World} {N B : Nat} {t : Tlr} {s : List UInt8} (h : Tells w N t s) (hb : Below B w w') (hN : N ≤ B) : Tells w' N t s := by
  cases t with
  | plc b => obtain ⟨h1, n, x, u, h2, h3⟩ := h; exact ⟨h1, n, x, u, (hb.block b (by omega)).trans h2, h3⟩
  | abt b => obtain ⟨h1, n, u, h2⟩ := h; exact ⟨h1, n, u, (hb.block b (by omega)).trans h2⟩
  | knd c => exact h

def sv (l : List (List UInt8)) : List Value := l.map fun s => .string ⟨s.toArray⟩
theorem sv_len (l : List (List UInt8)) : (sv l).length = l.length := by simp [sv]
theorem sv_app (l : List (List UInt8)) (x : List UInt8) : sv (l ++ [x]) = sv l ++ [.string ⟨x.toArray⟩] := by simp [sv]
theorem info_str : (Tryd.prog.info? 9).map (fun i => (i.zero, i.size, i.bytes)) = some (some (.string ⟨#[]⟩), 1, 16) := by kernel_rfl
theorem full_one {s : List UInt8} (h : s ≠ []) : full [s] = [s] := full_cons h []

set_option maxHeartbeats 1000000 in
theorem joins_none (w : World) (s : ByteArray) (c : Nat) (p : Option Addr) :
    Calls Tryd.prog 36 #[.slice p 0 c, .string s] w fun e w' => e = .returned (.string ⟨#[]⟩) ∧ w = w' := by
  go_enter Tryd.func36, Tryd.ntmps36
  go_wp2_with fail
  go_ret
  exact ⟨rfl, rfl⟩
theorem joins_calls (l : List (List UInt8)) (p : Option Addr) (c : Nat) (w : World) (h : Row1 w p c (sv l)) (hl : l.length ≤ 140737488355328) (hj : (Lib.join l sep).length ≤ 140737488355328) :
    Calls Tryd.prog 36 #[.slice p l.length c, .string ⟨#[58, 32]⟩] w fun e w' => e = .returned (.string ⟨(Lib.join l sep).toArray⟩) ∧ Below w.heap.size w w' := by
  rcases h.cells with h0 | ⟨b, rfl, hb, hc⟩
  · have : l = [] := by simpa [sv] using h0
    subst this
    exact (joins_none w _ c p).mono fun e w' ⟨he, hw⟩ => ⟨he, hw ▸ Below.refl _ _⟩
  · have e : (l.map fun s => (⟨s.toArray⟩ : ByteArray)).map (·.data.toList) = l := by rw [List.map_map]; exact List.map_id' l
    have := Tryd.strings_Join b 0 c (l.map fun s => (⟨s.toArray⟩ : ByteArray)) ⟨#[58, 32]⟩ w (fun j x hx => by rw [Nat.zero_add]; exact hc j _ (by rw [List.getElem?_map] at hx; simp only [sv, List.getElem?_map]; cases hq : l[j]? <;> simp [hq] at hx ⊢; exact hx)) hb (by simpa using hl) (by have := h.cap; rw [sv_len] at this; simpa using this) (by rw [e]; exact hj)
    rw [e, List.length_map] at this
    exact this

theorem join_step {w wr w5 w1 : World} {f f' : List (List UInt8)} {s : List UInt8} {v v' x : Value} {T : TypeId} (hf : f' = f ++ [s]) (ho : wr.ownsRow w.heap.size 9 1 v f.length (sv f)) (hb : Below w.heap.size w wr) (hb5 : Below wr.heap.size wr w5)
    (hown : w1.ownsRow w.heap.size 9 1 v' (f.length + 1) (sv f ++ [.string ⟨s.toArray⟩])) (hg : (w5.alloc (.cells #[x] T)).grownBy w1 v.ownBlock) :
    w1.ownsRow w.heap.size 9 1 v' f'.length (sv f') ∧ Below w.heap.size w w1 := by
  subst hf
  have hs := hb.size
  have hs5 := hb5.size
  refine ⟨by rw [List.length_append, sv_app]; exact hown, ((hb.trans (hb5.mono hs)).alloc (by omega) _).grown hg (by simp; omega) (fun k hk => (World.ownsRow.lt ho k hk).1)⟩

set_option maxRecDepth 100000 in
set_option maxHeartbeats 2000000 in
theorem join_calls (ts : List (Tlr × List UInt8)) (p : Option Addr) (c N : Nat) (w : World) (h : Row1 w p c (ts.map fun t => tv t.1)) (hm : ∀ t ∈ ts, Tells w N t.1 t.2) (hN : N ≤ w.heap.size) (hT : Tab w)
    (hl : ts.length ≤ 2000010) (hj : (Lib.join (full (ts.map (·.2))) sep).length ≤ 140737488355328) :
    Calls Tryd.prog 27 #[.slice p ts.length c] w fun e w' => e = .returned (.string ⟨(Lib.join (full (ts.map (·.2))) sep).toArray⟩) ∧ Below w.heap.size w w' := by
  obtain ⟨i0, hi, hz0, hz1, hz2⟩ := info_parts info_str
  have HR := Lib.hid h
  have HT := Lib.hid hT
  have HM := Lib.hid hm
  have HJ := Lib.hid hj
  clear h hT hm hj
  go_enter Tryd.func27, Tryd.ntmps27
  go_wp2_with fail
  go_loopw [3, 9] (fun v i wr => ∃ k : Nat, k ≤ ts.length ∧ i = .int .i64 k ∧ wr.ownsRow w.heap.size 9 1 v (full ((ts.map (·.2)).take k)).length (sv (full ((ts.map (·.2)).take k))) ∧ Below w.heap.size w wr) (fun _ i _ => ts.length - (intOf i).toNat)
  case atStart => exact ⟨0, by omega, rfl, World.ownsRow_nil _ _ _ _, Below.refl _ _⟩
  case round =>
    obtain ⟨k, hk, rfl, hown, hb⟩ := hrel
    have hbs := hb.size
    by_cases hlt : k < ts.length
    · have q1 : (k : Int) < (ts.length : Int) := by omega
      rcases HR.out.cells with h0 | ⟨b, rfl, hbl, hc⟩
      · have := congrArg List.length h0; rw [List.length_map, List.length_nil] at this; omega
      · have c0 := hc k (tv ts[k].1) (by simp [hlt])
        rw [← hb.cell (p := ⟨b, k, none⟩) hbl] at c0
        have hbw : b < wr.heap.size := by omega
        obtain ⟨t, s, hts⟩ : ∃ t s, ts[k] = (t, s) := ⟨_, _, rfl⟩
        have hs := (HM.out _ (List.getElem_mem hlt)).below hb hN
        rw [hts] at c0 hs
        have etk : (ts.map (·.2)).take (k + 1) = (ts.map (·.2)).take k ++ [s] := by
          rw [List.take_succ_eq_append_getElem (by simpa using hlt)]; simp [hts]
        have hfl : (full ((ts.map (·.2)).take k)).length ≤ 2000010 := by have := full_len ((ts.map (·.2)).take k); rw [List.length_take, List.length_map] at this; omega
        have HE := Lib.hid etk
        have HO := Lib.hid hown
        have HB := Lib.hid hb
        have HTW := Lib.hid (HT.out.below hb)
        clear hown hb etk hts hc
        by_cases hz : s = []
        · have ef : full ((ts.map (·.2)).take (k + 1)) = full ((ts.map (·.2)).take k) := by rw [HE.out, full_app, hz]; simp [full]
          have HF := Lib.hid ef
          clear ef
          subst hz
          cases t with
          | plc bb =>
            obtain ⟨_, n, x, u, hh, n1, n2, hp⟩ := hs
            have HH := Lib.hid hh
            have HP := Lib.hid hp
            clear hh hp
            change wr.cell? _ = some (Value.func _ _ _) at c0
            go_wp2_with (go_at_call 25; refine (place_calls bb n x u n1 n2 _ HH.out).mono ?_; rw [← HP.out]; rintro e w5 ⟨rfl, hb5⟩; replace hb5 := Lib.hid hb5)
            go_roundw
            case rel => exact ⟨k + 1, by omega, by go_num, by rw [HF.out]; exact own_below HO.out hb5.out, HB.out.trans (hb5.out.mono hbs)⟩
            case measure => simp [intOf]; omega
          | abt bb =>
            obtain ⟨_, n, u, hh⟩ := hs
            have HH := Lib.hid hh
            clear hh
            change wr.cell? _ = some (Value.func _ _ _) at c0
            go_wp2_with (go_at_call 26; refine (about_calls bb n _ u _ HH.out).mono ?_; rintro e w5 ⟨rfl, rfl⟩)
            go_roundw
            case rel => exact ⟨k + 1, by omega, by go_num, by rw [HF.out]; exact HO.out, HB.out⟩
            case measure => simp [intOf]; omega
          | knd cc =>
            obtain ⟨n1, n2, hp⟩ := hs
            have HP := Lib.hid hp
            clear hp
            change wr.cell? _ = some (Value.func _ _ _) at c0
            go_wp2_with (go_at_call 20; refine (kind_calls cc n1 n2 _ HTW.out).mono ?_; rw [← HP.out]; rintro e w5 ⟨rfl, hb5⟩; replace hb5 := Lib.hid hb5)
            go_roundw
            case rel => exact ⟨k + 1, by omega, by go_num, by rw [HF.out]; exact own_below HO.out hb5.out, HB.out.trans (hb5.out.mono hbs)⟩
            case measure => simp [intOf]; omega
        · have ef : full ((ts.map (·.2)).take (k + 1)) = full ((ts.map (·.2)).take k) ++ [s] := by rw [HE.out, full_app, full_one hz]
          have HF := Lib.hid ef
          clear ef
          have hne : s.isEmpty = false := by cases s <;> simp at hz ⊢
          cases t with
          | plc bb =>
            obtain ⟨_, n, x, u, hh, n1, n2, hp⟩ := hs
            have HH := Lib.hid hh
            have HP := Lib.hid hp
            clear hh hp
            change wr.cell? _ = some (Value.func _ _ _) at c0
            go_wp2_with (first | (go_at_call 25; refine (place_calls bb n x u n1 n2 _ HH.out).mono ?_; rw [← HP.out]; rintro e w5 ⟨rfl, hb5⟩; have ho5 := own_below HO.out hb5; have h5 := hb5.size; have HB5 := Lib.hid hb5; clear hb5) | (at_builtin; refine Own.append_any rfl (.tmp 17) (.tmp 19) 59 rfl w.heap.size 9 i0 _ 1 16 Tryd.underlying59 hi hz0 hz1 hz2 rfl (by decide) _ _ _ rfl (World.ownsRow.alloc ho5 _) _ 1 1 [.string ⟨s.toArray⟩] rfl (fun h => nomatch h) rfl (one_new _ _ _ _ (by simp)) (by simp [Value.oneCell']) (by unfold maxLen; omega) (by omega) (by simp; omega) ?_; intro v' w1 hown1 hgrow1))
            have C1 := Lib.hid (join_step HF.out HO.out HB.out HB5.out hown1 hgrow1)
            clear hown1 hgrow1 ho5
            go_wp2_with fail
            go_roundw
            case rel => exact ⟨k + 1, by omega, by go_num, C1.out.1, C1.out.2⟩
            case measure => simp [intOf]; omega
          | abt bb =>
            obtain ⟨_, n, u, hh⟩ := hs
            have HH := Lib.hid hh
            clear hh
            have ho5 := HO.out
            have HB5 := Lib.hid (Below.refl wr.heap.size wr)
            change wr.cell? _ = some (Value.func _ _ _) at c0
            go_wp2_with (first | (go_at_call 26; refine (about_calls bb n _ u _ HH.out).mono ?_; rintro e w5 ⟨rfl, rfl⟩) | (at_builtin; refine Own.append_any rfl (.tmp 17) (.tmp 19) 59 rfl w.heap.size 9 i0 _ 1 16 Tryd.underlying59 hi hz0 hz1 hz2 rfl (by decide) _ _ _ rfl (World.ownsRow.alloc ho5 _) _ 1 1 [.string ⟨s.toArray⟩] rfl (fun h => nomatch h) rfl (one_new _ _ _ _ (by simp)) (by simp [Value.oneCell']) (by unfold maxLen; omega) (by omega) (by simp; omega) ?_; intro v' w1 hown1 hgrow1))
            have C1 := Lib.hid (join_step HF.out HO.out HB.out HB5.out hown1 hgrow1)
            clear hown1 hgrow1 ho5
            go_wp2_with fail
            go_roundw
            case rel => exact ⟨k + 1, by omega, by go_num, C1.out.1, C1.out.2⟩
            case measure => simp [intOf]; omega
          | knd cc =>
            obtain ⟨n1, n2, hp⟩ := hs
            have HP := Lib.hid hp
            clear hp
            change wr.cell? _ = some (Value.func _ _ _) at c0
            go_wp2_with (first | (go_at_call 20; refine (kind_calls cc n1 n2 _ HTW.out).mono ?_; rw [← HP.out]; rintro e w5 ⟨rfl, hb5⟩; have ho5 := own_below HO.out hb5; have h5 := hb5.size; have HB5 := Lib.hid hb5; clear hb5) | (at_builtin; refine Own.append_any rfl (.tmp 17) (.tmp 19) 59 rfl w.heap.size 9 i0 _ 1 16 Tryd.underlying59 hi hz0 hz1 hz2 rfl (by decide) _ _ _ rfl (World.ownsRow.alloc ho5 _) _ 1 1 [.string ⟨s.toArray⟩] rfl (fun h => nomatch h) rfl (one_new _ _ _ _ (by simp)) (by simp [Value.oneCell']) (by unfold maxLen; omega) (by omega) (by simp; omega) ?_; intro v' w1 hown1 hgrow1))
            have C1 := Lib.hid (join_step HF.out HO.out HB.out HB5.out hown1 hgrow1)
            clear hown1 hgrow1 ho5
            go_wp2_with fail
            go_roundw
            case rel => exact ⟨k + 1, by omega, by go_num, C1.out.1, C1.out.2⟩
            case measure => simp [intOf]; omega
    · obtain rfl : k = ts.length := by omega
      have e : (ts.map (·.2)).take ts.length = ts.map (·.2) := List.take_of_length_le (by simp)
      rw [e] at hown
      obtain ⟨q, cc, rfl, hr⟩ := owns_row hown (sv_len _).symm
      have hfl : (full (ts.map (·.2))).length ≤ 140737488355328 := by have := full_len (ts.map (·.2)); rw [List.length_map] at this; omega
      have HQ := Lib.hid hr
      have HB := Lib.hid hb
      clear hown hr hb
      go_wp2_with (go_at_call 36; refine (joins_calls _ _ _ _ HQ.out hfl HJ.out).mono ?_; rintro e w5 ⟨rfl, hb5⟩; replace hb5 := Lib.hid hb5)
      go_ret
      exact ⟨rfl, HB.out.trans (hb5.out.mono hbs)⟩
end Go.Proofs.YtpjjfcgebgejaaaDoor.Flt

/-
  Layer 12 (lex): between, wordSize, Wordy, walked.
-/
import Derived.Test.YtabpkpeonbdinaaDoorLexRange
import Derived.WalkSpells
import Derived.Deep.QuietTactic
namespace Go.Proofs.YtabpkpeonbdinaaDoor.Lex
open Go.RowKit Go.Proofs.YtabpkpeonbdinaaDoor.Own

/-- a range over a text stands at a byte: its block, and the world as it was -/
structure At (s : ByteArray) (w wr : World) (pos : Nat) : Prop where
  le : pos ≤ s.size
  it : wr.heap[w.heap.size]? = some (.stringIter s pos)
  below : Below w.heap.size w wr
theorem At.start (s : ByteArray) (w : World) : At s w (w.iter s 0) 0 := ⟨Nat.zero_le _, World.iter_heap w s 0, (Below.refl _ _).alloc (Nat.le_refl _) _⟩
theorem At.next {s : ByteArray} {w wr : World} {pos R K : Nat} (h : At s w wr pos) {hp : pos < s.size} (g : Sign s pos R K hp) : At s w (wr.iterAt w.heap.size s (pos + K)) (pos + K) :=
  ⟨g.le, Lib.iterAt_heap _ _ _ _ _ h.it, Lib.below_iterAt h.below (Nat.le_refl _) _ _⟩
theorem At.drewN {s : ByteArray} {w wr : World} {pos : Nat} (h : At s w wr pos) (n : Nat) : At s w (wr.drewN n) pos := ⟨h.le, h.it, ⟨h.below.os, h.below.tape, h.below.output, h.below.size, h.below.block⟩⟩
theorem At.pos {s : ByteArray} {w wr : World} {pos : Nat} (h : At s w wr pos) : wr.iterPos w.heap.size = pos := iterPos_of h.it

set_option maxRecDepth 100000 in
set_option maxHeartbeats 2000000 in
theorem between_calls (s : ByteArray) (w : World) :
    Calls Tryd.prog 21 #[.string s] w fun e w' => e = .returned (.int .i64 (skip false s.data.toList)) ∧ Below w.heap.size w w' := by
  go_enter Tryd.func21, Tryd.ntmps21
  go_wp2_with fail
  go_loopw [3] (fun n wr => ∃ (b : Bool) (pos : Nat), n = .bool b ∧ At s w wr pos ∧ Hid (skip false s.data.toList = pos + skip b (s.data.toList.drop pos))) (fun _ wr => s.size - wr.iterPos w.heap.size)
  case atStart => exact ⟨false, 0, rfl, At.start s w, Lib.hid (by simp)⟩
  case round =>
    obtain ⟨b, pos, rfl, hA, HS⟩ := hrel
    rename World => wr
    have hle := hA.le
    have hm := hA.pos
    by_cases hp : pos < s.size
    · obtain ⟨R, K, hg⟩ := sign_of s pos hp
      have hnx := fun ty => hg.next hA.it ty
      have HA := Lib.hid (hA.next hg)
      have HM := Lib.hid (HA.out.pos)
      have k1 := hg.one
      have kle := hg.le
      have HL := Lib.hid hg.low
      have HH := Lib.hid hg.high
      have HK := Lib.hid (fun hh => hg.skip hh)
      have HD := Lib.hid (drop_at s pos hp)
      generalize wr.iterAt w.heap.size s (pos + K) = W at *
      clear hA hg
      obtain ⟨c, hc⟩ : ∃ c, s[pos] = c := ⟨_, rfl⟩
      rw [hc] at HL HH HK HD
      clear hc
      by_cases hlow : c.toNat < 128
      · obtain ⟨hR, hK⟩ := HL.out hlow
        subst hK
        clear HL HH HK
        have HC := Lib.hid hR
        have ht : R < 128 := by omega
        clear hlow hR
        by_cases h10 : R = 10
        · subst h10
          have HS2 := Lib.hid (show skip false s.data.toList = (pos + 1) + skip false (s.data.toList.drop (pos + 1)) by
            rw [HS.out, HD.out, skip_line HC.out.symm]; omega)
          clear HS HD HC
          go_wp2_with fail
          go_roundw
          case rel => exact ⟨false, pos + 1, rfl, HA.out, HS2⟩
          case measure => rw [HM.out, hm]; omega
        · have b10 : ((R : Int) == 10) = false := by simp; omega
          have hc10 : c.toNat ≠ 10 := by have := HC.out; omega
          cases b
          · by_cases hbb : bb R = true
            · have HS2 := Lib.hid (show skip false s.data.toList = (pos + 1) + skip false (s.data.toList.drop (pos + 1)) by
                rw [HS.out, HD.out, skip_go hc10 (by rw [← HC.out, hbb]; rfl)]; omega)
              clear HS HD HC hc10
              rw [bb_iff] at hbb
              rcases hbb with rfl | rfl | rfl
              all_goals
                go_wp2_with fail
                go_roundw
                case rel => exact ⟨false, pos + 1, rfl, HA.out, HS2⟩
                case measure => rw [HM.out, hm]; omega
            · have hb' : bb R = false := by simpa using hbb
              have hn : R ≠ 32 ∧ R ≠ 9 ∧ R ≠ 13 := by
                have := mt (bb_iff R).2 (by simp [hb']); omega
              have b1 : ((R : Int) == 32) = false := by simp; omega
              have b2 : ((R : Int) == 9) = false := by simp; omega
              have b3 : ((R : Int) == 13) = false := by simp; omega
              by_cases h35 : R = 35
              · subst h35
                have HS2 := Lib.hid (show skip false s.data.toList = (pos + 1) + skip true (s.data.toList.drop (pos + 1)) by
                  rw [HS.out, HD.out, skip_note HC.out.symm]; omega)
                clear HS HD HC hc10 hbb hb' hn
                go_wp2_with fail
                go_roundw
                case rel => exact ⟨true, pos + 1, rfl, HA.out, HS2⟩
                case measure => rw [HM.out, hm]; omega
              · have b4 : ((R : Int) == 35) = false := by simp; omega
                have HS2 := Lib.hid (show skip false s.data.toList = pos by
                  rw [HS.out, HD.out, skip_end hc10 (by rw [← HC.out, hb']) (by rw [← HC.out]; exact h35)]; rfl)
                clear HS HD HC hc10 hbb hb' hn h35 h10
                go_wp2_with fail
                go_ret
                exact ⟨by rw [HS2.out]; rfl, HA.out.below⟩
          · have HS2 := Lib.hid (show skip false s.data.toList = (pos + 1) + skip true (s.data.toList.drop (pos + 1)) by
              rw [HS.out, HD.out, skip_go hc10 rfl]; omega)
            clear HS HD HC hc10 h10
            go_wp2_with fail
            go_roundw
            case rel => exact ⟨true, pos + 1, rfl, HA.out, HS2⟩
            case measure => rw [HM.out, hm]; omega
      · have hh : 128 ≤ c.toNat := by omega
        have hR := (HH.out hh).1
        have b10 : ((R : Int) == 10) = false := by simp; omega
        have b1 : ((R : Int) == 32) = false := by simp; omega
        have b2 : ((R : Int) == 9) = false := by simp; omega
        have b3 : ((R : Int) == 13) = false := by simp; omega
        have b4 : ((R : Int) == 35) = false := by simp; omega
        have hs := HK.out hh
        clear HL HH hlow
        cases b
        · have HS2 := Lib.hid (show skip false s.data.toList = pos by
            rw [HS.out, HD.out, skip_end (by omega) (by simp [bb]; omega) (by omega)]; rfl)
          clear HS HD HK hs hh
          go_wp2_with fail
          go_ret
          exact ⟨by rw [HS2.out]; rfl, HA.out.below⟩
        · have HS2 := Lib.hid (show skip false s.data.toList = (pos + K) + skip true (s.data.toList.drop (pos + K)) by
            rw [HS.out, hs]; omega)
          clear HS HD HK hs hh
          go_wp2_with fail
          go_roundw
          case rel => exact ⟨true, pos + K, rfl, HA.out, HS2⟩
          case measure => rw [HM.out, hm]; omega
    · have hnx := fun ty => Lib.run_next_end_at (P := Tryd.prog) wr w.heap.size s pos ty hA.it hp
      have HS2 := Lib.hid (show skip false s.data.toList = s.size by rw [HS.out, drop_all s (by omega), skip_nil]; omega)
      have HA := Lib.hid hA
      clear HS hA
      go_wp2_with fail
      go_ret
      exact ⟨by rw [HS2.out]; rfl, HA.out.below⟩

set_option maxRecDepth 100000 in
set_option maxHeartbeats 2000000 in
theorem size_calls (s : ByteArray) (w : World) :
    Calls Tryd.prog 40 #[.string s] w fun e w' => e = .returned (.int .i64 (wlen s.data.toList)) ∧ Below w.heap.size w w' := by
  go_enter Tryd.func40, Tryd.ntmps40
  go_wp2_with fail
  go_loopw [] (fun wr => ∃ (pos : Nat), At s w wr pos ∧ Hid (wlen s.data.toList = pos + wlen (s.data.toList.drop pos))) (fun wr => s.size - wr.iterPos w.heap.size)
  case atStart => exact ⟨0, At.start s w, Lib.hid (by simp)⟩
  case round =>
    obtain ⟨pos, hA, HS⟩ := hrel
    rename World => wr
    have hle := hA.le
    have hm := hA.pos
    by_cases hp : pos < s.size
    · obtain ⟨R, K, hg⟩ := sign_of s pos hp
      have hnx := fun ty => hg.next hA.it ty
      have HA := Lib.hid (hA.next hg)
      have HM := Lib.hid (HA.out.pos)
      have k1 := hg.one
      have kle := hg.le
      have HL := Lib.hid hg.low
      have HH := Lib.hid hg.high
      have HD := Lib.hid (drop_at s pos hp)
      generalize wr.iterAt w.heap.size s (pos + K) = W at *
      clear hA hg
      obtain ⟨c, hc⟩ : ∃ c, s[pos] = c := ⟨_, rfl⟩
      rw [hc] at HL HH HD
      clear hc
      by_cases hw : wb c.toNat = true
      · have hw2 := (wb_iff _).1 hw
        obtain ⟨hR, hK⟩ := HL.out (by omega)
        subst hK
        have HS2 := Lib.hid (show wlen s.data.toList = (pos + 1) + wlen (s.data.toList.drop (pos + 1)) by
          rw [HS.out, HD.out, wlen_yes hw]; omega)
        have hq := wb_qb hw
        rw [← hR] at hw2 hq
        have hends : (R == 123 || R == 125 || R == 59 || R == 34 || R == 35 || R == 92) = false := by simp; omega
        have b1 : ((R : Int) == 32) = false := by simp; omega
        have hlt : R < 128 := by omega
        clear HS HD HL HH hw hR hw2
        go_wp2_with (first
          | (go_at_call 56; refine (quotable_calls R _).mono ?_; rintro e w' ⟨rfl, rfl⟩; rw [hq])
          | (go_at_call 58; refine (ends_calls R hlt _).mono ?_; rintro e w' ⟨rfl, rfl⟩; rw [hends]))
        go_roundw
        case rel => exact ⟨pos + 1, HA.out, HS2⟩
        case measure => rw [HM.out, hm]; omega
      · have hw' : wb c.toNat = false := by simpa using hw
        have HS2 := Lib.hid (show wlen s.data.toList = pos by rw [HS.out, HD.out, wlen_no hw']; rfl)
        clear HS HD hw
        by_cases h32 : R = 32
        · subst h32
          clear HL HH hw'
          go_wp2_with fail
          go_ret
          exact ⟨by rw [HS2.out]; rfl, HA.out.below⟩
        · have b1 : ((R : Int) == 32) = false := by simp; omega
          by_cases hq : qb R = true
          · have hq2 := (qb_iff _).1 hq
            have hlow : c.toNat < 128 := by
              by_cases h : c.toNat < 128
              · exact h
              · have := (HH.out (by omega)).1; omega
            obtain ⟨hR, hK⟩ := HL.out hlow
            have hlt : R < 128 := by omega
            have hends : (R == 123 || R == 125 || R == 59 || R == 34 || R == 35 || R == 92) = true := by
              have := mt (wb_iff _).2 (by simp [hw'] : ¬ wb c.toNat = true)
              simp; omega
            clear HL HH hw' hR hK hlow hq2 h32
            go_wp2_with (first
              | (go_at_call 56; refine (quotable_calls R _).mono ?_; rintro e w' ⟨rfl, rfl⟩; rw [hq])
              | (go_at_call 58; refine (ends_calls R hlt _).mono ?_; rintro e w' ⟨rfl, rfl⟩; rw [hends]))
            go_ret
            exact ⟨by rw [HS2.out]; rfl, HA.out.below⟩
          · have hq' : qb R = false := by simpa using hq
            clear HL HH hw' hq h32
            go_wp2_with (go_at_call 56; refine (quotable_calls R _).mono ?_; rintro e w' ⟨rfl, rfl⟩; rw [hq'])
            go_ret
            exact ⟨by rw [HS2.out]; rfl, HA.out.below⟩
    · have hnx := fun ty => Lib.run_next_end_at (P := Tryd.prog) wr w.heap.size s pos ty hA.it hp
      have HS2 := Lib.hid (show wlen s.data.toList = s.size by rw [HS.out, drop_all s (by omega), wlen_nil]; omega)
      have HA := Lib.hid hA
      clear HS hA
      go_wp2_with fail
      go_ret
      exact ⟨by rw [HS2.out]; rfl, HA.out.below⟩

set_option maxRecDepth 100000 in
theorem wordy_calls (s : ByteArray) (w : World) :
    Calls Tryd.prog 50 #[.string s] w fun e w' => e = .returned (.bool (isW s.data.toList)) ∧ Below w.heap.size w w' := by
  by_cases h0 : s.size = 0
  · obtain rfl : s = ⟨#[]⟩ := by
      cases s with | mk d => cases d with | mk l => cases l with | nil => rfl | cons a r => simp [ByteArray.size] at h0
    go_enter Tryd.func50, Tryd.ntmps50
    go_wp2_with fail
    go_ret
    exact ⟨rfl, Below.refl _ _⟩
  · have hne : s.data.toList.isEmpty = false := by
      cases h : s.data.toList with
      | nil => have := list_size s; rw [h] at this; simp at this; omega
      | cons a r => rfl
    have HR := Lib.hid (show isW s.data.toList = (wlen s.data.toList == s.size) by rw [isW, hne]; rfl)
    have HW := Lib.hid (size_calls s)
    obtain ⟨n, hn⟩ : ∃ n, wlen s.data.toList = n := ⟨_, rfl⟩
    rw [hn] at HW HR
    have hs : s.toList.isEmpty = false := by rw [ByteArray.toList_eq]; exact hne
    have hs2 : (s.toList != []) = true := by
      cases h : s.toList with
      | nil => rw [h] at hs; cases hs
      | cons a r => rfl
    have hc : (((n : Nat) : Int) == (s.size : Int)) = (n == s.size) := by
      rw [Bool.eq_iff_iff]; simp; omega
    clear hn hne h0
    go_enter Tryd.func50, Tryd.ntmps50
    go_wp2_with (go_at_call 40; refine (HW.out _).mono ?_; rintro e w' ⟨rfl, hb⟩; replace hb := Lib.hid hb)
    go_ret
    exact ⟨by rw [HR.out]; first | rfl | simp, hb.out⟩

end Go.Proofs.YtabpkpeonbdinaaDoor.Lex

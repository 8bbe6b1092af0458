/-
  Layer 12 (lex): the document's quote, one, walked.
-/
import Derived.Test.YtijnijlekidhcaaDoorLexRefA
import Derived.Test.YtijnijlekidhcaaDoorLexFirst
namespace Go.Proofs.YtijnijlekidhcaaDoor.Lex
open Go.RowKit Go.Proofs.YtijnijlekidhcaaDoor.Own

theorem extract_one (s : ByteArray) (k : Nat) (h : k < s.size) : s.extract k (k + 1) = ⟨#[s[k]]⟩ := by
  have : (s.extract k (k + 1)).data.toList = [s[k]] := by
    rw [extract_list, show k + 1 - k = 1 by omega, drop_at s k h]; rfl
  cases hx : s.extract k (k + 1) with
  | mk d => rw [hx] at this; cases d with | mk l => simp at this; rw [this]
theorem cut_one (s : ByteArray) (k : Nat) (h : k < s.size) (W : World) : (Instr.sliceAt 9 (.string s) (some (.int .i64 k)) (some (.int .i64 ((k : Int) + 1))) none).run Tryd.prog W = .ok (.string ⟨#[s[k]]⟩) W := by
  rw [cut_mid 9 Tryd.underlying9 s k (k + 1) (by omega) (by omega) (by omega) W, show (k : Int).toNat = k by omega, show ((k : Int) + 1).toNat = k + 1 by omega, extract_one s k h]
theorem bytes_add (a b : List UInt8) : ((⟨a.toArray⟩ : ByteArray) ++ ⟨b.toArray⟩) = ⟨(a ++ b).toArray⟩ := by
  apply ByteArray.ext; simp
theorem size_mk (l : List UInt8) : (⟨l.toArray⟩ : ByteArray).size = l.length := by simp [ByteArray.size]

def RquPost (s : ByteArray) (a : Nat) (w : World) (e : Ending) (w' : World) : Prop :=
  ∃ (t : List UInt8) (n : Nat) (b : Bool), e = .returned (.tuple #[.string ⟨t.toArray⟩, .int .i64 n, .bool b]) ∧ w' = w ∧
    (b = false ∧ unq false (s.data.toList.drop (a + 1)) = none ∨ b = true ∧ ∃ m, unq false (s.data.toList.drop (a + 1)) = some (t, m) ∧ n = a + 1 + m)
theorem rqu_none {s : ByteArray} {a k : Nat} {acc : List UInt8} {w : World} (h : unq false (s.data.toList.drop (a + 1)) = (unq false (s.data.toList.drop k)).map fun x => (acc ++ x.1, k - (a + 1) + x.2)) (hn : unq false (s.data.toList.drop k) = none) : RquPost s a w (.returned (.tuple #[.string ⟨#[]⟩, .int .i64 0, .bool false])) w :=
  ⟨[], 0, false, rfl, rfl, .inl ⟨rfl, by rw [h, hn]; rfl⟩⟩

set_option maxRecDepth 100000 in
set_option maxHeartbeats 4000000 in
theorem rquote_calls (s : ByteArray) (hs : s.size ≤ 1099511627776) (a : Nat) (ha : a < s.size) (w : World) :
    Calls Tryd.prog 35 #[.string s, .int .i64 a] w (RquPost s a w) := by
  go_enter Tryd.func35, Tryd.ntmps35
  go_wp2_with fail
  go_loop [7, 8] (fun o i => ∃ (acc : List UInt8) (k : Nat), o = .string ⟨acc.toArray⟩ ∧ i = .int .i64 k ∧ k ≤ s.size ∧ a + 1 ≤ k ∧ acc.length ≤ k ∧ Hid (unq false (s.data.toList.drop (a + 1)) = (unq false (s.data.toList.drop k)).map fun x => (acc ++ x.1, k - (a + 1) + x.2))) (fun _ i => s.size - (intOf i).toNat)
  case atStart => exact ⟨[], a + 1, rfl, by go_num, by omega, Nat.le_refl _, by simp, Lib.hid (by simp)⟩
  case round =>
    obtain ⟨acc, k, rfl, rfl, hk, hak, hacc, HU⟩ := hrel
    have k1 : (k : Int) ≤ 1099511627776 := by omega
    have hsa := size_mk acc
    by_cases hlt : k < s.size
    · have q1 : (k : Int) < (s.size : Int) := by omega
      have HD := Lib.hid (drop_at s k hlt)
      have hcut := cut_one s k hlt
      have HC := Lib.hid (bytes_add acc [s[k]])
      obtain ⟨c, hc⟩ : ∃ c, s[k] = c := ⟨_, rfl⟩
      obtain ⟨n, hn⟩ : ∃ n, c.toNat = n := ⟨_, rfl⟩
      have HN := Lib.hid hn
      rw [hc] at HD HC
      by_cases h34 : n = 34
      · subst h34
        have HR := Lib.hid (unq_end HN.out (s.data.toList.drop (k + 1)))
        clear hcut
        go_wp2_with fail
        go_ret3
        exact ⟨acc, k + 1, true, by go_num, rfl, .inr ⟨rfl, k - (a + 1) + 1, by rw [HU.out, HD.out, HR.out]; simp, by omega⟩⟩
      · have b34 : ((n : Int) == 34) = false := by simp; omega
        by_cases h92 : n = 92
        · subst h92
          have HR := Lib.hid (unq_slash HN.out (s.data.toList.drop (k + 1)))
          by_cases hl2 : k + 1 < s.size
          · have q2 : (k : Int) + 1 < (s.size : Int) := by omega
            have HD2 := Lib.hid (drop_at s (k + 1) hl2)
            have hcut2 := cut_one s (k + 1) hl2
            have HC2 := Lib.hid (bytes_add acc [s[k + 1]])
            obtain ⟨d, hd⟩ : ∃ d, s[k + 1] = d := ⟨_, rfl⟩
            obtain ⟨m, hm⟩ : ∃ m, d.toNat = m := ⟨_, rfl⟩
            have HM := Lib.hid hm
            have HX2 := Lib.hid (extract_one s (k + 1) hl2)
            rw [hd] at HD2 HC2 HX2
            cases he : eb m
            · have hm2 : m ≠ 34 ∧ m ≠ 92 := by
                have := mt (eb_iff m).2 (by simp [he]); omega
              have c1 : ((m : Int) != 34) = true := by simp; omega
              have c2 : ((m : Int) != 92) = true := by simp; omega
              have HR2 := Lib.hid (unq_lone (by rw [HM.out]; exact he) (s.data.toList.drop (k + 1 + 1)))
              have HNN := Lib.hid (show unq false (s.data.toList.drop k) = none by rw [HD.out, HR.out, HD2.out, HR2.out]; rfl)
              clear hcut hcut2 hm2
              go_wp2_with fail
              go_ret3
              exact rqu_none HU.out HNN.out
            · have HR2 := Lib.hid (unq_esc (by rw [HM.out]; exact he) (s.data.toList.drop (k + 1 + 1)))
              rw [eb_iff] at he
              rcases he with rfl | rfl
              all_goals
                go_wp2_with fail
                go_round
                case rel => exact ⟨acc ++ [d], (k + 1) + 1, by rw [HX2.out, HC2.out], by go_num, by omega, by omega, by simp; omega, Lib.hid (by rw [HU.out, HD.out, HR.out, HD2.out, HR2.out, Option.map_map, Option.map_map]; congr 1; funext x; simp; omega)⟩
                case measure => simp [intOf]; omega
          · have q2 : (s.size : Int) ≤ (k : Int) + 1 := by omega
            have HNN := Lib.hid (show unq false (s.data.toList.drop k) = none by rw [HD.out, HR.out, drop_all s (by omega), unq_nil]; rfl)
            clear hcut
            go_wp2_with fail
            go_ret3
            exact rqu_none HU.out HNN.out
        · have b92 : ((n : Int) == 92) = false := by simp; omega
          cases hq : qb n
          · have hnq : n < 32 ∨ (32 ≤ n ∧ 126 < n) := by
              have := mt (qb_iff n).2 (by simp [hq]); omega
            have HNN := Lib.hid (show unq false (s.data.toList.drop k) = none by rw [HD.out]; exact unq_bad (by rw [HN.out]; exact hq) _ _)
            clear hcut
            rcases hnq with hx | ⟨hx, hy⟩
            · have q3 : (n : Int) < 32 := by omega
              go_wp2_with fail
              go_ret3
              exact rqu_none HU.out HNN.out
            · have q3 : (32 : Int) ≤ n := by omega
              have q4 : (126 : Int) < n := by omega
              go_wp2_with fail
              go_ret3
              exact rqu_none HU.out HNN.out
          · have hq2 := (qb_iff n).1 hq
            have q3 : (32 : Int) ≤ n := by omega
            have q4 : (n : Int) ≤ 126 := by omega
            have HR := Lib.hid (unq_plain (by rw [HN.out]; exact hq) (by rw [HN.out]; simp [eb, h34, h92]) (s.data.toList.drop (k + 1)))
            clear hq2
            go_wp2_with fail
            go_round
            case rel => exact ⟨acc ++ [c], k + 1, by rw [HC.out], by go_num, by omega, by omega, by simp; omega, Lib.hid (by rw [HU.out, HD.out, HR.out, Option.map_map]; congr 1; funext x; simp; omega)⟩
            case measure => simp [intOf]; omega
    · obtain rfl : k = s.size := by omega
      have HN := Lib.hid (show unq false (s.data.toList.drop s.size) = none by rw [drop_all s (Nat.le_refl _)]; exact unq_nil _)
      clear hlt
      go_wp2_with fail
      go_ret3
      exact rqu_none HU.out HN.out
end Go.Proofs.YtijnijlekidhcaaDoor.Lex

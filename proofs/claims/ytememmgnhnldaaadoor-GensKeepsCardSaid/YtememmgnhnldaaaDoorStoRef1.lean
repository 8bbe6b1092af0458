/-
  Layer 11 (store): the document's own store: rows of files; names, places, bytes in all.
-/
import Derived.Test.YtememmgnhnldaaaDoorStoBeg
import Derived.Test.YtememmgnhnldaaaDoorRow1
namespace Go.Proofs.YtememmgnhnldaaaDoor.Sto
open Go.RowKit Go.Proofs.YtememmgnhnldaaaDoor.Own
open Go.Proofs.YtememmgnhnldaaaDoor.Rw (str strs Row1)

theorem cell_alloc {w : World} {a : Addr} {x : Value} (h : w.cell? a = some x) (o : Obj) : (w.alloc o).cell? a = some x :=
  (World.cell?_of_block (Below.heap_alloc w o a.block (World.block_lt_of_cell? w a h))).trans h
/-- a file's cells -/
def fv (x : Fl) : List Value := [str x.nm, str x.bs, .int .i64 (x.sure : Int)]
def fvs (L : List Fl) : List Value := L.flatMap fv
theorem fvs_len (L : List Fl) : (fvs L).length = L.length * 3 := by
  induction L with
  | nil => rfl
  | cons x r ih =>
    have : fvs (x :: r) = fv x ++ fvs r := rfl
    rw [this, List.length_append, ih]
    simp [fv]; omega
theorem fvs_app (L M : List Fl) : fvs (L ++ M) = fvs L ++ fvs M := by simp [fvs]
theorem fvs_one (L : List Fl) : ∀ u ∈ fvs L, u.oneCell' = true := by
  intro u hu
  simp only [fvs, List.mem_flatMap] at hu
  obtain ⟨x, _, h⟩ := hu
  simp [fv] at h
  rcases h with rfl | rfl | rfl <;> rfl
theorem fvs_get {L : List Fl} {i : Nat} (h : i < L.length) (j : Nat) (hj : j < 3) : (fvs L)[3 * i + j]? = (fv L[i])[j]? := by
  induction L generalizing i with
  | nil => simp at h
  | cons x r ih =>
    have e : fvs (x :: r) = fv x ++ fvs r := rfl
    have l3 : (fv x).length = 3 := rfl
    rw [e]
    cases i with
    | zero => rw [List.getElem?_append_left (by omega)]; simp
    | succ i =>
      rw [List.getElem?_append_right (by omega), show 3 * (i + 1) + j - (fv x).length = 3 * i + j by omega]
      exact ih (by simpa using h)
/-- a slice of files -/
structure Fs (w : World) (p : Option Addr) (c : Nat) (L : List Fl) : Prop where
  cap : L.length ≤ c
  max : c ≤ maxLen
  nil : p = none → c = 0
  cells : L = [] ∨ ∃ b o, p = some ⟨b, o, none⟩ ∧ b < w.heap.size ∧ ∀ j u, (fvs L)[j]? = some u → w.cell? ⟨b, o + j, none⟩ = some u
theorem Fs.below {w w' : World} {p : Option Addr} {c : Nat} {L : List Fl} (h : Fs w p c L) (hb : Below w.heap.size w w') : Fs w' p c L :=
  ⟨h.cap, h.max, h.nil, h.cells.imp id fun ⟨b, o, e, hl, k⟩ => ⟨b, o, e, Nat.lt_of_lt_of_le hl hb.size, fun j u hu => (hb.cell (p := ⟨b, o + j, none⟩) hl).trans (k j u hu)⟩⟩
theorem Fs.out {w w' : World} {S : Nat → Prop} {p : Option Addr} {c : Nat} {L : List Fl} (h : Fs w p c L) (ho : Out S w w') (hp : ∀ b o, p = some ⟨b, o, none⟩ → ¬ S b) : Fs w' p c L :=
  ⟨h.cap, h.max, h.nil, h.cells.imp id fun ⟨b, o, e, hl, k⟩ => ⟨b, o, e, Nat.lt_of_lt_of_le hl ho.size, fun j u hu => (ho.cell (p := ⟨b, o + j, none⟩) hl (hp b o e)).trans (k j u hu)⟩⟩
theorem Fs.at_ {w : World} {p : Option Addr} {c : Nat} {L : List Fl} (h : Fs w p c L) {i : Nat} (hi : i < L.length) :
    ∃ b o, p = some ⟨b, o, none⟩ ∧ b < w.heap.size ∧ w.cell? ⟨b, o + i * 3, none⟩ = some (str L[i].nm) ∧ w.cell? ⟨b, o + i * 3 + 1, none⟩ = some (str L[i].bs) ∧ w.cell? ⟨b, o + i * 3 + 2, none⟩ = some (.int .i64 (L[i].sure : Int)) := by
  rcases h.cells with rfl | ⟨b, o, e, hl, k⟩
  · simp at hi
  · refine ⟨b, o, e, hl, ?_, ?_, ?_⟩
    · have := k (3 * i + 0) _ (by rw [fvs_get hi 0 (by omega)]; rfl)
      rwa [show o + (3 * i + 0) = o + i * 3 by omega] at this
    · have := k (3 * i + 1) _ (by rw [fvs_get hi 1 (by omega)]; rfl)
      rwa [show o + (3 * i + 1) = o + i * 3 + 1 by omega] at this
    · have := k (3 * i + 2) _ (by rw [fvs_get hi 2 (by omega)]; rfl)
      rwa [show o + (3 * i + 2) = o + i * 3 + 2 by omega] at this
theorem Fs.empty (w : World) : Fs w none 0 [] := ⟨Nat.le_refl _, by unfold maxLen; omega, fun _ => rfl, .inl rfl⟩
/-- files in an array of the call's own -/
theorem fs_own {w : World} {B n : Nat} {v : Value} {L : List Fl} (h : w.ownsRow B 68 3 v n (fvs L)) : n = L.length ∧ ∃ p c, v = .slice p n c ∧ Fs w p c L ∧ ∀ b o, p = some ⟨b, o, none⟩ → B ≤ b := by
  have hn : n = L.length := by have := h.1; rw [fvs_len] at this; omega
  refine ⟨hn, ?_⟩
  rcases h.2 with ⟨rfl, h0⟩ | ⟨g, cap, cur, rfl, hB, hh, h3, h4, _⟩
  · refine ⟨none, 0, by rw [h0], ⟨by omega, by unfold maxLen; omega, fun _ => rfl, .inl (List.eq_nil_of_length_eq_zero (by omega))⟩, fun b o e => by cases e⟩
  · refine ⟨_, cap, rfl, ⟨by omega, h4, (fun h => nomatch h), .inr ⟨g, 0, rfl, at_lt hh, fun j u hu => ?_⟩⟩, fun b o e => by cases e; exact hB⟩
    have := World.ownsRow.cells h (g := g) rfl j u hu
    rw [add0] at this
    rwa [Nat.zero_add]
theorem info_file : (Tryd.prog.info? 68).map (fun i => (i.zero, i.size, i.bytes)) = some (some (.agg #[.string ⟨#[]⟩, .string ⟨#[]⟩, .int .i64 0]), 3, 40) := by kernel_rfl

/-! ### Named -/
def okN (l : Bs) (k : Nat) : Bool := sized l && allc (l.take k)
theorem okN_next (s : ByteArray) (k : Nat) (h : k < s.size) : okN s.data.toList (k + 1) = (okN s.data.toList k && nmc s[k].toNat) := by
  unfold okN
  rw [all_next s k h, Bool.and_assoc]
theorem okN_end {s : ByteArray} {k : Nat} (h : ¬ k < s.size) : okN s.data.toList k = isNm s.data.toList := by
  unfold okN isNm
  rw [all_full h]
set_option maxRecDepth 100000 in
set_option maxHeartbeats 2000000 in
theorem rnamed_calls (s : ByteArray) (hz : s.size ≤ 1000000) (w : World) : Calls Tryd.prog 43 #[.string s] w fun e w' => e = .returned (.bool (isNm s.data.toList)) ∧ w = w' := by
  have H0 : Hid ((decide (1 ≤ s.size) && decide (s.size ≤ 64)) = okN s.data.toList 0) := Lib.hid (by simp [okN, sized_eq, allc])
  rcases (show s.size = 0 ∨ (1 ≤ s.size ∧ s.size ≤ 64) ∨ (1 ≤ s.size ∧ ¬ s.size ≤ 64) by omega) with h | ⟨h, h2⟩ | ⟨h, h2⟩
  · have b2 : decide ((1 : Int) ≤ (s.size : Int)) = decide (1 ≤ s.size) := decide_eq_decide.2 (by omega)
    go_enter Tryd.func43, Tryd.ntmps43
    go_wp2
    go_loop [3, 4] (fun b i => i = .int .i64 0 ∧ b = .bool (okN s.data.toList 0)) (fun _ i => s.size - (intOf i).toNat)
    case atStart => exact ⟨rfl, by rw [← H0.out]; simp [h]⟩
    case round =>
      obtain ⟨rfl, rfl⟩ := hrel
      have HE := Lib.hid (okN_end (s := s) (show ¬ 0 < s.size by omega))
      go_wp2_with fail
      go_ret
      exact ⟨by rw [← HE.out]; rfl, rfl⟩
  all_goals
    have b1 : decide ((s.size : Int) ≤ 64) = decide (s.size ≤ 64) := decide_eq_decide.2 (by omega)
    have b2 : decide ((1 : Int) ≤ (s.size : Int)) = decide (1 ≤ s.size) := decide_eq_decide.2 (by omega)
    go_enter Tryd.func43, Tryd.ntmps43
    go_wp2
    go_loop [3, 4] (fun b i => ∃ k : Nat, k ≤ s.size ∧ i = .int .i64 k ∧ b = .bool (okN s.data.toList k)) (fun _ i => s.size - (intOf i).toNat)
    case atStart => exact ⟨0, Nat.zero_le _, rfl, by rw [← H0.out]; simp [h]; try omega⟩
    case round =>
      obtain ⟨k, hk, rfl, rfl⟩ := hrel
      by_cases hlt : k < s.size
      · have HN := Lib.hid (okN_next s k hlt)
        have q1 : (k : Int) < (s.size : Int) := by omega
        obtain ⟨o, ho⟩ : ∃ o, okN s.data.toList k = o := ⟨_, rfl⟩
        obtain ⟨x, hx⟩ : ∃ x : UInt8, s[k] = x := ⟨_, rfl⟩
        rw [ho, hx] at HN
        rw [ho]
        replace ho := Lib.hid ho
        have c1 : decide ((33 : Int) ≤ (x.toNat : Int)) = decide (33 ≤ x.toNat) := decide_eq_decide.2 (by omega)
        have c2 : decide ((x.toNat : Int) ≤ 126) = decide (x.toNat ≤ 126) := decide_eq_decide.2 (by omega)
        have c3 : ((x.toNat : Int) != 47) = (x.toNat != 47) := by rw [bne, bne]; congr 1; exact decide_eq_decide.2 (by omega)
        cases o with
        | false =>
          have HF : Hid (okN s.data.toList (k + 1) = false) := Lib.hid (by rw [HN.out]; rfl)
          go_wp2_with fail
          go_round
          case rel => exact ⟨k + 1, by omega, by go_num, by rw [HF.out]⟩
          case measure => simp [intOf]; omega
        | true =>
          rcases (show (x.toNat < 33) ∨ (33 ≤ x.toNat ∧ 126 < x.toNat) ∨ (33 ≤ x.toNat ∧ x.toNat ≤ 126 ∧ x.toNat = 47) ∨ (33 ≤ x.toNat ∧ x.toNat ≤ 126 ∧ x.toNat ≠ 47) by omega) with q | ⟨q, q2⟩ | ⟨q, q2, q3⟩ | ⟨q, q2, q3⟩
          · have HF : Hid (okN s.data.toList (k + 1) = false) := Lib.hid (by rw [HN.out, nmc, decide_eq_false (by omega : ¬ 33 ≤ x.toNat)]; rfl)
            clear c1 c2 c3
            go_wp2_with fail
            go_round
            case rel => exact ⟨k + 1, by omega, by go_num, by rw [HF.out]⟩
            case measure => simp [intOf]; omega
          · have HF : Hid (okN s.data.toList (k + 1) = false) := Lib.hid (by rw [HN.out, nmc, decide_eq_false (by omega : ¬ x.toNat ≤ 126)]; simp)
            clear c1 c2 c3
            go_wp2_with fail
            go_round
            case rel => exact ⟨k + 1, by omega, by go_num, by rw [HF.out]⟩
            case measure => simp [intOf]; omega
          · have HF : Hid (okN s.data.toList (k + 1) = false) := Lib.hid (by rw [HN.out, nmc, q3]; simp)
            clear c1 c2 c3
            go_wp2_with fail
            go_round
            case rel => exact ⟨k + 1, by omega, by go_num, by rw [HF.out]⟩
            case measure => simp [intOf]; omega
          · have q4 : (x.toNat != 47) = true := by simpa using q3
            have q5 : ((x.toNat : Int) != 47) = true := by rw [c3]; exact q4
            have HF : Hid (okN s.data.toList (k + 1) = true) := Lib.hid (by rw [HN.out, nmc, decide_eq_true q, decide_eq_true q2, q4]; rfl)
            clear c1 c2 c3
            go_wp2_with fail
            go_round
            case rel => exact ⟨k + 1, by omega, by go_num, by rw [HF.out]⟩
            case measure => simp [intOf]; omega
      · have HE := Lib.hid (okN_end hlt)
        have q1 : ¬ (k : Int) < (s.size : Int) := by omega
        go_wp2_with fail
        go_ret
        exact ⟨by rw [← HE.out]; rfl, rfl⟩
end Go.Proofs.YtememmgnhnldaaaDoor.Sto

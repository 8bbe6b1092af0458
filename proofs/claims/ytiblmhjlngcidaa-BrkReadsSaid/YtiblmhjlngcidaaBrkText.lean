/-
  Layer 14 (brk): a step's text, found by its type.
-/
import Derived.Test.YtiblmhjlngcidaaBrkOp
import Derived.Test.YtiblmhjlngcidaaShowP
namespace Go.Proofs.Ytiblmhjlngcidaa.Brk
open Go.RowKit Go.Proofs.Ytiblmhjlngcidaa.Digit Go.Proofs.Ytiblmhjlngcidaa.Own

theorem cut_256 (s : ByteArray) : ∃ p : ByteArray, p.size ≤ 256 ∧ p.data.toList = s.data.toList.take 256 ∧ s.extract 0 (min (s.size : Int) 256).toNat = p := by
  refine ⟨s.extract 0 (min (s.size : Int) 256).toNat, ?_, ?_, rfl⟩
  · rw [ByteArray.size_extract]; omega
  · by_cases h4 : 256 ≤ s.size
    · simp [ByteArray.data_extract, show (min (s.size : Int) 256).toNat = 256 by omega, List.extract_eq_take_drop]
    · rw [List.take_of_length_le (by rw [size_list]; omega)]
      simp [show (min (s.size : Int) 256).toNat = s.size by omega]

set_option maxRecDepth 100000 in
set_option maxHeartbeats 1000000 in
theorem text_send (s : ByteArray) (w : World) :
    Calls Try.prog 72 #[.string s] w fun e w' => e = .returned (.string ⟨(shw (s.data.toList.take 256)).toArray⟩) ∧ Below w.heap.size w w' := by
  obtain ⟨p, hp, hpl, hpe⟩ := cut_256 s
  have HS := Lib.hid (show_calls p (by omega))
  rw [hpl] at HS
  clear hpl
  go_enter Try.func72, Try.ntmps72
  go_wp2_with (go_at_call 73; refine (HS.out _).mono ?_; rintro e w' ⟨rfl, hb⟩)
  go_ret
  exact ⟨rfl, hb⟩
theorem text_pulse (w : World) :
    Calls Try.prog 78 #[.agg #[]] w fun e w' => e = .returned (.string ⟨#[92, 122]⟩) ∧ Below w.heap.size w w' := by
  go_enter Try.func78, Try.ntmps78
  go_wp2_with fail
  go_ret
  exact ⟨rfl, (Below.refl _ _).alloc (Nat.le_refl _) _⟩

theorem repeat_reps (f : Nat) : Lib.repeatL w99 f = reps f := by
  induction f with
  | zero => rfl
  | succ f ih => rw [Lib.repeatL, ih, reps_succ]
theorem rep_99 (f : Nat) (hf : f ≤ 1000) (w : World) :
    Calls Try.prog 44 #[.string ⟨#[92, 119, 57, 57]⟩, .int .i64 f] w fun e w' => e = .returned (.string ⟨(reps f).toArray⟩) ∧ Below w.heap.size w w' := by
  have h := Try.strings_Repeat ⟨#[92, 119, 57, 57]⟩ f w (by omega) (by show 4 * f ≤ _; omega)
  rw [show (⟨#[92, 119, 57, 57]⟩ : ByteArray).data.toList = w99 from rfl, repeat_reps] at h
  exact h
theorem wait_near {n : Int} (h1 : 1 ≤ n) {T f k : Nat} (hT : (T : Int) = min n 25344) (hf : f = (T - 1) / 99) (hk : T = 99 * f + k) : Near (wtx n.toNat) (reps f ++ wsg k) := by
  have e : wtx T = reps f ++ wsg k := by rw [hk, wtx_reps f k (by omega), wtx_le (by omega)]
  rw [← e]
  by_cases h : n ≤ 25344
  · rw [show n.toNat = T by omega]; exact .inl rfl
  · exact .inr ⟨wtx_long (by omega), wtx_long (by omega)⟩
set_option maxRecDepth 100000 in
set_option maxHeartbeats 1000000 in
theorem text_wait (n : Int) (h1 : 1 ≤ n) (w : World) :
    Calls Try.prog 76 #[.int .i64 n] w fun e w' => (∃ t : List UInt8, e = .returned (.string ⟨t.toArray⟩) ∧ Near (wtx n.toNat) t ∧ t.length ≤ 1100) ∧ Below w.heap.size w w' := by
  obtain ⟨T, hT⟩ : ∃ T : Nat, (T : Int) = min n 25344 := ⟨(min n 25344).toNat, by omega⟩
  obtain ⟨f, hf⟩ : ∃ f : Nat, f = (T - 1) / 99 := ⟨_, rfl⟩
  obtain ⟨k, hk⟩ : ∃ k : Nat, T = 99 * f + k := ⟨T - 99 * f, by omega⟩
  have HN := Lib.hid (wait_near h1 hT hf hk)
  have hk1 : 1 ≤ k := by omega
  have hk2 : k ≤ 99 := by omega
  have hf2 : f ≤ 255 := by omega
  have eT : min n 25344 = (T : Int) := hT.symm
  have ef : ((T : Int) - 1) / 99 = (f : Int) := by omega
  have ek : (T : Int) - 99 * (f : Int) = (k : Int) := by omega
  have HW := Lib.hid (sign_wait 99 (by omega) (by omega))
  rw [w99_is] at HW
  have HL := Lib.hid (wsg_len k)
  have hl : (reps f).length = 4 * f := reps_len f
  have hT1 : 1 ≤ (T : Int) := by omega
  have hT2 : (T : Int) ≤ 25344 := by omega
  clear hT hf hk h1
  go_enter Try.func76, Try.ntmps76
  go_wp2_with fail
  rw [ef]
  clear ef
  refine (HW.out _).mono ?_
  rintro e w1 ⟨rfl, hb1⟩
  go_wp2_with fail
  refine (rep_99 f (by omega) _).mono ?_
  rintro e w2 ⟨rfl, hb2⟩
  go_wp2_with fail
  refine (sign_wait k hk1 hk2 _).mono ?_
  rintro e w3 ⟨rfl, hb3⟩
  have hl2 := HL.out
  go_wp2_with fail
  go_ret
  exact ⟨⟨_, rfl, HN.out, by show (reps f ++ wsg k).length ≤ 1100; rw [List.length_append, hl]; omega⟩, (hb1.trans (hb2.mono hb1.size)).trans (hb3.mono (Nat.le_trans hb1.size hb2.size))⟩

/-! ### found by the step's type -/
/-- what a type's table says of a method by its name -/
noncomputable def rowOf (T : TypeId) (name : String) : Option (Bool × Option (FuncId × Bool)) :=
  (Try.prog.info? T).bind fun I => (I.methods.find? (fun x => x.name == name)).map fun m => (m.path.isEmpty, m.func)
theorem find_val {w : World} {T : TypeId} {U : TypeDesc} {name : String} {f : FuncId} (hr : rowOf T name = some (true, some (f, false))) (hu : Try.prog.underlying T = some U) (hn : ∀ E, U ≠ .pointer E) {v : Value} (n : Nat) :
    (method (n + 1) T v name).run Try.prog w = .ok (f, v) w := by
  unfold rowOf at hr
  cases hI : Try.prog.info? T with
  | none => simp [hI] at hr
  | some I =>
    simp only [hI, Option.bind_some, Option.map_eq_some_iff, Prod.mk.injEq] at hr
    obtain ⟨m, hm, hp, hf⟩ := hr
    have hp' : m.path = #[] := by simpa using hp
    unfold method
    cases U with
    | pointer E => exact absurd rfl (hn E)
    | _ => simp [go_sem, typeInfo, hI, hm, hf, hp', follow, receiverAt, run_underlying hu, Place.get]
/-- a step's text -/
def TextOf (x : Op) (F : FuncId) (v : Value) : Prop := ∀ w, Calls Try.prog F #[v] w fun e w' => (∃ t : List UInt8, e = .returned (.string ⟨t.toArray⟩) ∧ Near (tx x) t ∧ t.length ≤ 1100) ∧ Below w.heap.size w w'
theorem text_of (x : Op) (h : Ok x) : ∃ T v, stV x = .iface T v ∧
    ((T = 58 ∧ TextOf x 72 v) ∨ (T = 59 ∧ TextOf x 76 v) ∨ (T = 61 ∧ TextOf x 78 v)) := by
  obtain ⟨k, s, n⟩ := x
  rcases h with ⟨a, b, c⟩ | ⟨a, b, c⟩ | ⟨a, b, c⟩
  · simp only at a b c
    subst a c
    refine ⟨_, _, rfl, .inl ⟨rfl, fun w => (text_send ⟨s.toArray⟩ w).mono ?_⟩⟩
    rintro e w' ⟨rfl, hb⟩
    exact ⟨⟨_, rfl, near_show s, Nat.le_trans (shw_len _) (by show 4 * (s.take 256).length ≤ _; rw [List.length_take]; omega)⟩, hb⟩
  · simp only at a b c
    subst a b
    exact ⟨_, _, rfl, .inr (.inl ⟨rfl, fun w => text_wait n c w⟩)⟩
  · simp only at a b c
    subst a b c
    refine ⟨_, _, rfl, .inr (.inr ⟨rfl, fun w => (text_pulse w).mono ?_⟩)⟩
    rintro e w' ⟨rfl, hb⟩
    exact ⟨⟨[92, 122], rfl, .inl rfl, by simp⟩, hb⟩
end Go.Proofs.Ytiblmhjlngcidaa.Brk

/-
Layer 15 (conf): the law's decimal.
A region that draws its order, with guards and stores: each operation told once; what holds of the frame and the world meanwhile.
Layer 15 (conf): operations of ConfLike's region, and what holds meanwhile.
Layer 15 (conf): the document's Same over texts (layer 10).
Layer 15 (conf): operations of the document's Same.
Layer 15 (conf): the walk of ConfLike.
Layer 15 (conf): a console that came in.
-/
import Derived.Test.YtajfdachpdkbcaaGreatDoorPack15
import Derived.Lib.SmallJoins
section
namespace Go.Proofs.YtajfdachpdkbcaaGreatDoor.Conf
open Go.RowKit Go.Proofs.YtajfdachpdkbcaaGreatDoor.Own Go.Proofs.YtajfdachpdkbcaaGreatDoor.Rw Go.Proofs.YtajfdachpdkbcaaGreatDoor.Tree
open Go.Proofs.YtajfdachpdkbcaaGreatDoor.Digit (dec decN decN_lt decN_ge hexd)

theorem conv_one1 (W : World) (c : UInt8) : (convert 91 9 (.slice (some ⟨W.heap.size, 0, none⟩) 1 1)).run Tryz.prog (W.alloc (.cells #[.int .u8 c.toNat] 5 (0, 0))) = .ok (.string ⟨#[c]⟩) (W.alloc (.cells #[.int .u8 c.toNat] 5 (0, 0))) := by
  refine run_convert_bytes_back _ 91 9 5 ⟨W.heap.size, 0, none⟩ 1 [c] Tryz.underlying91 Tryz.underlying5 Tryz.underlying9 (fun j hj => ?_)
  match j, hj with
  | 0, _ => rw [add0, at_cell (at_new W _)]; rfl
  | j + 1, hj => simp at hj

theorem one_app (c : UInt8) (s : Bs) : (⟨#[c]⟩ : ByteArray) ++ ⟨s.toArray⟩ = ⟨(c :: s).toArray⟩ := by
  apply ByteArray.ext
  simp [ByteArray.data_append]
theorem hexd_ten {m : Nat} (h : m < 10) : ((hexd m).toNat : Int) = 48 + m := by
  rcases (show m = 0 ∨ m = 1 ∨ m = 2 ∨ m = 3 ∨ m = 4 ∨ m = 5 ∨ m = 6 ∨ m = 7 ∨ m = 8 ∨ m = 9 by omega) with rfl | rfl | rfl | rfl | rfl | rfl | rfl | rfl | rfl | rfl <;> rfl
theorem decN_step {m : Nat} (h : 0 < m) : ∃ l, decN m = l ++ [hexd (m % 10)] ∧ (m / 10 = 0 → l = []) ∧ (0 < m / 10 → l = decN (m / 10)) := by
  by_cases h1 : m < 10
  · exact ⟨[], by rw [decN_lt h1, Nat.mod_eq_of_lt h1]; rfl, fun _ => rfl, fun h2 => by omega⟩
  · exact ⟨decN (m / 10), decN_ge h1, fun h2 => by omega, fun _ => rfl⟩

set_option maxRecDepth 100000 in
set_option maxHeartbeats 4000000 in
theorem decimal_calls (n : Nat) (h0 : 0 < n) (h1 : n ≤ 1000) (w : World) :
    Calls Tryz.prog 15 #[.int .i64 n] w fun e w' => e = .returned (.string ⟨(dec (n : Int)).toArray⟩) ∧ Below w.heap.size w w' := by
  have HD := Lib.hid (show dec (n : Int) = decN n by unfold dec; rw [if_neg (by omega)]; simp)
  have H0 := Lib.hid h0
  clear h0
  go_enter Tryz.func15, Tryz.ntmps15
  go_wp2_with fail
  go_loopw [0, 3] (fun v0 v3 wr => ∃ (m : Nat) (s : Bs), v0 = .int .i64 m ∧ v3 = .string ⟨s.toArray⟩ ∧ m ≤ 1000 ∧ (m = 0 → s = decN n) ∧ (0 < m → decN m ++ s = decN n) ∧ Below w.heap.size w wr) (fun v0 _ _ => (Tree.intOf v0).toNat)
  case atStart => exact ⟨n, [], rfl, rfl, h1, fun e => absurd e (by have := H0.out; omega), fun _ => by simp, Below.refl _ _⟩
  case round =>
    obtain ⟨m, s, rfl, rfl, hm, hz, hp, hb⟩ := hrel
    rename World => wr
    have HB := Lib.hid hb
    have HZ := Lib.hid hz
    have HP := Lib.hid hp
    clear hb hz hp
    by_cases h : 0 < m
    · have q1 : (0 : Int) < (m : Int) := by omega
      obtain ⟨l, hl, hl0, hl1⟩ := decN_step h
      have HL := Lib.hid hl
      have HL0 := Lib.hid hl0
      have HL1 := Lib.hid hl1
      have hcv := conv_one1 wr (hexd (m % 10))
      rw [hexd_ten (Nat.mod_lt _ (by decide))] at hcv
      have hcv : (convert 91 9 (.slice (some ⟨wr.heap.size, 0, none⟩) 1 1)).run Tryz.prog (wr.alloc (.cells #[.int .u8 (48 + (m : Int) % 10)] 5 (0, 0))) = .ok (.string ⟨#[hexd (m % 10)]⟩) (wr.alloc (.cells #[.int .u8 (48 + (m : Int) % 10)] 5 (0, 0))) := by
        have e : ((m % 10 : Nat) : Int) = (m : Int) % 10 := by omega
        rw [e] at hcv; exact hcv
      generalize hexd (m % 10) = c at *
      have HP2 := Lib.hid (HP.out h)
      have hsl : s.length ≤ 4 := by
        have h4 := Go.Proofs.YtajfdachpdkbcaaGreatDoor.Digit.decN_len 3 n (by omega)
        have h5 := congrArg List.length (HP.out h)
        rw [List.length_append] at h5
        omega
      have hap := one_app c s
      clear hl hl0 hl1
      go_wp2_with fail
      go_roundw
      case rel =>
        refine ⟨m / 10, c :: s, by rw [show ((m / 10 : Nat) : Int) = (m : Int) / 10 by omega], by first | rfl | rw [hap], by omega, fun e => ?_, fun e => ?_, HB.out.alloc HB.out.size _⟩
        · have := HP2.out
          rw [HL.out, HL0.out e] at this
          exact this
        · have := HP2.out
          rw [HL.out, HL1.out e, List.append_assoc] at this
          exact this
      case measure => simp [Tree.intOf]; omega
    · obtain rfl : m = 0 := by omega
      have HS := Lib.hid (HZ.out rfl)
      clear h hm
      rw [show ((0 : Nat) : Int) = 0 from rfl]
      go_wp2_with fail
      go_ret
      exact ⟨by rw [HD.out, ← HS.out]; rfl, HB.out⟩
end Go.Proofs.YtajfdachpdkbcaaGreatDoor.Conf
end

section
namespace Go.Proofs.YtajfdachpdkbcaaGreatDoor.Reg
open Go Go.RowKit
section
variable {P : Program} {ops : Array Oper} {Q : Exit → Act → World → Prop} {ds : List (Option Nat)} {n : Nat}
/-- what an operation may look at -/
structure HSees (ops : Array Oper) (ds : List (Option Nat)) (Sp : Nat → World → Value → Prop) (J : Array Bool → Act → World → Prop) (a0 : Act) (listed : Array Bool) (i : Nat) (a : Act) (w : World) : Prop where
  size : listed.size = ops.size
  un : listed.getD i false = false
  closed : ∀ k, k < ops.size → listed.getD k false = true → ∀ j ∈ deps ops k, listed.getD j false = true
  dep : ∀ j ∈ deps ops i, ∃ v, (∀ d, dsAt ds j = some d → a.tmps[d]? = some v) ∧ Sp j w v
  other : ∀ t, (∀ k, k < ops.size → listed.getD k false = true → dsAt ds k ≠ some t) → a.tmps[t]? = a0.tmps[t]?
  inv : J listed a w
  lst : ∀ j ∈ deps ops i, listed.getD j false = true
  tsz : a.tmps.size = a0.tmps.size
structure HHolds (ops : Array Oper) (ds : List (Option Nat)) (Sp : Nat → World → Value → Prop) (J : Array Bool → Act → World → Prop) (a0 : Act) (listed : Array Bool) (a : Act) (w : World) : Prop where
  size : a.tmps.size = a0.tmps.size
  defers : a.defers = a0.defers
  closed : ∀ k, k < ops.size → listed.getD k false = true → ∀ j ∈ deps ops k, listed.getD j false = true
  other : ∀ t, (∀ i, i < ops.size → listed.getD i false = true → dsAt ds i ≠ some t) → a.tmps[t]? = a0.tmps[t]?
  done : ∀ i, i < ops.size → listed.getD i false = true → ∃ v, (∀ d, dsAt ds i = some d → a.tmps[d]? = some v) ∧ Sp i w v
  inv : J listed a w
/-- what it is to leave -/
def Leaves4 (Sp : Nat → World → Value → Prop) (J : Array Bool → Act → World → Prop) (listed : Array Bool) (i : Nat) (d : Option Tmp) (a : Act) (w : World) (a2 : Act) (w2 : World) : Prop :=
  ∃ v, a2 = a.put d v ∧ Sp i w2 v ∧ (∀ j u, j ≠ i → listed.getD j false = true → Sp j w u → Sp j w2 u) ∧ J (listed.setIfInBounds i true) (a.put d v) w2
variable {Sp : Nat → World → Value → Prop} {J : Array Bool → Act → World → Prop} {a0 : Act}
theorem any_guarded4 (hok : okG ops ds a0.tmps.size = true)
    (step : ∀ i o listed a w, ops[i]? = some o → HSees ops ds Sp J a0 listed i a w →
      (Region.wanted o (yielded ops a.tmps) = true → Oper.wp P o a w (Leaves4 Sp J listed i o.dst a w) Q) ∧ (Region.wanted o (yielded ops a.tmps) = false → Leaves4 Sp J listed i o.dst a w (a.put o.dst undef) w))
    (fin : ∀ listed a w, (∀ i, i < ops.size → listed.getD i false = true) → HHolds ops ds Sp J a0 listed a w → Q .normal a w) :
    ∀ (fuel : Nat) (listed : Array Bool) (a : Act) (w : World), listed.size = ops.size → left listed ≤ fuel → HHolds ops ds Sp J a0 listed a w → wpAny P .any ops Q fuel listed a w
  | 0, listed, a, w, hl, hf, h => by
    have hall : ∀ i, i < ops.size → listed.getD i false = true := fun i hi => left_zero (by omega) (by omega)
    exact ⟨all_ready hl hall, fin listed a w hall h⟩
  | fuel + 1, listed, a, w, hl, hf, h => by
    refine ⟨fun hr => fin listed a w (readyG_all hok hl hr) h, fun i hi => ?_⟩
    obtain ⟨hun, o, ho, hdep⟩ := mem_ready.1 hi
    have hi' : i < ops.size := (Array.getElem?_eq_some_iff.1 ho).1
    have hk := okG_at hok ho
    have hun2 : listed.getD i false = false := by rw [getD_mem (by omega)] at hun ⊢; exact hun
    have hdeps : ∀ j ∈ deps ops i, j < ops.size ∧ listed.getD j false = true := fun j hj => by
      have hlt := hk.deps j hj
      unfold deps at hj
      rw [ho] at hj
      obtain ⟨e, he, rfl⟩ := List.mem_map.1 hj
      have he := List.mem_filter.1 he
      exact ⟨by omega, hdep e (by simpa using he.1) he.2⟩
    have hstep := step i o listed a w ho ⟨hl, hun2, h.closed, fun j hj => h.done j (hdeps j hj).1 (hdeps j hj).2, h.other, h.inv, fun j hj => (hdeps j hj).2, h.size⟩
    have key : ∀ a' w', Leaves4 Sp J listed i o.dst a w a' w' → wpAny P .any ops Q fuel (listed.setIfInBounds i true) a' w' := by
      rintro a' w' ⟨v, rfl, hv, hmono, hJ⟩
      refine any_guarded4 hok step fin fuel _ _ _ (by simpa using hl) (by have := left_set (listed := listed) (i := i) (by omega) hun; omega) ⟨?_, ?_, ?_, ?_, ?_, hJ⟩
      · rw [put_size]; exact h.size
      · rw [put_defers]; exact h.defers
      · intro k hk2 hlk j hj
        by_cases hik : i = k
        · subst hik
          exact getD_set_true (hdeps j hj).2
        · rw [getD_set_ne false hik] at hlk
          exact getD_set_true (h.closed k hk2 hlk j hj)
      · intro t ht
        have hit : (listed.setIfInBounds i true).getD i false = true := by
          rw [getD_mem (by simpa using (by omega : i < listed.size))]; simp
        rw [put_ne a v (by rw [hk.dst]; exact ht i hi' hit)]
        exact h.other t fun k hk2 hlk => ht k hk2 (getD_set_true hlk)
      · intro j hj hlj
        by_cases hij : i = j
        · subst hij
          refine ⟨v, fun d hd => ?_, hv⟩
          rw [hk.dst, hd]
          exact put_at a v (by rw [h.size]; exact hk.lt d hd)
        · rw [getD_set_ne false hij] at hlj
          obtain ⟨u, e1, e2⟩ := h.done j hj hlj
          refine ⟨u, fun d hd => ?_, hmono j u (Ne.symm hij) hlj e2⟩
          rw [put_ne a v (by rw [hk.dst]; exact okG_apart hok hj hi' (Ne.symm hij) hd)]
          exact e1 d hd
    unfold wpOp
    rw [ho]
    dsimp only
    cases hw : Region.wanted o (yielded ops a.tmps) with
    | true =>
      rw [if_pos rfl]
      exact .inl (Oper.wp_mono key (hstep.1 hw))
    | false =>
      rw [if_neg (by simp)]
      exact key _ _ (hstep.2 hw)
/-- the region, each operation told once; the frame behind it: 'slots' are the temporaries that it writes, each with its operation -/
theorem wp_guarded4 {id : Nat} {a : Act} {w : World} (hm : P.follows .mixedOrders = true) (ds : List (Option Nat)) (Sp : Nat → World → Value → Prop) (J : Array Bool → Act → World → Prop) (slots : List (Nat × Nat)) (hok : okG ops ds a.tmps.size = true)
    (hsl : (slots.all fun p => decide (p.2 < ops.size) && dsAt ds p.2 == some p.1) = true) (hnd : (slots.map (·.1)).Nodup) (hall : ((List.range ops.size).all fun i => (dsAt ds i).all fun d => (slots.map (·.1)).contains d) = true)
    (h0 : J (Array.replicate ops.size false) a w.drew)
    (step : ∀ i o listed a' w', ops[i]? = some o → HSees ops ds Sp J a listed i a' w' →
      (Region.wanted o (yielded ops a'.tmps) = true → Oper.wp P o a' w' (Leaves4 Sp J listed i o.dst a' w') Q) ∧ (Region.wanted o (yielded ops a'.tmps) = false → Leaves4 Sp J listed i o.dst a' w' (a'.put o.dst undef) w'))
    (fin : ∀ listed (vs : List Value) w', vs.length = slots.length → (∀ (k : Nat) (p : Nat × Nat) (v : Value), slots[k]? = some p → vs[k]? = some v → Sp p.2 w' v ∧ (puts a ((slots.map (·.1)).zip vs)).tmps[p.1]? = some v) → (∀ i, i < ops.size → ∃ v, Sp i w' v) → (∀ i, i < ops.size → listed.getD i false = true) → J listed (puts a ((slots.map (·.1)).zip vs)) w' → Q .normal (puts a ((slots.map (·.1)).zip vs)) w') :
    (Code.region id ops true).wp P Q a w := by
  refine wp_region_any hm ?_
  refine any_guarded4 (a0 := a) hok step (fun listed a' w' hal h => ?_) _ _ _ _ (by simp) ?_ ⟨rfl, rfl, fun k hk hf => ?_, fun _ _ => rfl, fun i hi hf => ?_, h0⟩
  · simp only [List.all_eq_true, Bool.and_eq_true, decide_eq_true_eq, beq_iff_eq] at hsl
    have hv : ∀ p ∈ slots, ∃ v, a'.tmps[p.1]? = some v ∧ Sp p.2 w' v := fun p hp => by
      obtain ⟨h1, h2⟩ := hsl p hp
      obtain ⟨v, e, hs⟩ := h.done p.2 h1 (hal _ h1)
      exact ⟨v, e p.1 h2, hs⟩
    let vs := slots.map fun p => a'.tmps.getD p.1 undef
    have hfr := frame_eq h.size h.defers ((slots.map (·.1)).zip vs) (by
      rw [List.map_fst_zip (by simp [vs])]; exact hnd) (fun p hp => by
      have hp2 := (List.of_mem_zip (a := p.1) (b := p.2) hp).1
      obtain ⟨q, hq, e⟩ := List.mem_map.1 hp2
      obtain ⟨h1, h2⟩ := hsl q hq
      rw [← e]
      exact (okG_at hok (Array.getElem?_eq_some_iff.2 ⟨h1, rfl⟩)).lt _ h2) (fun p hp => by
      obtain ⟨k, hk, e⟩ := List.mem_iff_getElem.1 hp
      rw [List.getElem_zip] at e
      rw [← e]
      rw [List.length_zip] at hk
      have hk1 : k < slots.length := by simp at hk; omega
      obtain ⟨v, e1, _⟩ := hv slots[k] (List.getElem_mem hk1)
      simp only [vs, List.getElem_map]
      rw [arr_getD e1]; exact e1) (fun t ht => h.other t fun i hi _ e => by
      simp only [List.all_eq_true, List.mem_range] at hall
      have h3 := hall i hi
      rw [e] at h3
      have h3 : t ∈ slots.map (·.1) := by simpa using h3
      obtain ⟨k, hk, e2⟩ := List.mem_iff_getElem.1 h3
      have hkl : k < ((slots.map (·.1)).zip vs).length := by rw [List.length_zip]; simp [vs] at hk ⊢; omega
      exact ht _ (List.getElem_mem hkl) (by rw [List.getElem_zip]; exact e2))
    have hinv := h.inv
    rw [hfr] at hinv
    rw [hfr]
    refine fin listed vs w' (by simp [vs]) (fun k p v hp hvk => ?_) (fun i hi => (h.done i hi (hal i hi)).imp fun v hv => hv.2) hal hinv
    obtain ⟨hk1, rfl⟩ := List.getElem?_eq_some_iff.1 hp
    obtain ⟨hk2, rfl⟩ := List.getElem?_eq_some_iff.1 hvk
    obtain ⟨u, e1, e2⟩ := hv slots[k] (List.getElem_mem hk1)
    have h3 : vs[k] = a'.tmps.getD slots[k].1 undef := by simp only [vs, List.getElem_map]
    have hv2 : vs[k] = u := by rw [h3, arr_getD e1]
    rw [hv2]
    exact ⟨e2, by rw [← hfr]; exact e1⟩
  · exact Nat.le_trans List.countP_le_length (by simp)
  · simp [hk] at hf
  · simp [hi] at hf
end
end Go.Proofs.YtajfdachpdkbcaaGreatDoor.Reg
end

section
namespace Go.Proofs.YtajfdachpdkbcaaGreatDoor.Conf
open Go.RowKit Go.Proofs.YtajfdachpdkbcaaGreatDoor.Own Go.Proofs.YtajfdachpdkbcaaGreatDoor.Rw Go.Proofs.YtajfdachpdkbcaaGreatDoor.Tree
open Go.Proofs.YtajfdachpdkbcaaGreatDoor.Digit (dec)

def lf1 (x : Cn) : Cf := ⟨[x], [], [], [], List.replicate 10 []⟩
def likeY (x : Cn) (k : Int) : Cn := { x with name := sZz, lines := k }
def lf2 (x : Cn) (k : Int) : Cf := { lf1 x with cons := [x, likeY x k] }
theorem zero_int {j : Nat} {n : Int} (h : zeroC[j]? = some (.int .i64 n)) : False := by
  have hj : j < 14 := by have := (Array.getElem?_eq_some_iff.1 h).1; simpa [zeroC] using this
  obtain rfl | rfl | rfl | rfl | rfl | rfl | rfl | rfl | rfl | rfl | rfl | rfl | rfl | rfl : j = 0 ∨ j = 1 ∨ j = 2 ∨ j = 3 ∨ j = 4 ∨ j = 5 ∨ j = 6 ∨ j = 7 ∨ j = 8 ∨ j = 9 ∨ j = 10 ∨ j = 11 ∨ j = 12 ∨ j = 13 := by omega
  all_goals simp [zeroC] at h
theorem lf2_out {x : Cn} {k : Int} {w w' : World} {g : Nat} {T : TypeId} {v0 v1 v2 v3 : Value} (h : CfR w v0 v1 v2 v3 (lf2 x k)) (hz : w.heap[g]? = some (.cells zeroC T (0, 0))) (ho : Out (fun i => i = g) w w') : CfR w' v0 v1 v2 v3 (lf2 x k) := by
  obtain ⟨p0, k0, e0, r0⟩ := h.cons
  obtain ⟨p1, k1, gs, e1, r1, g1⟩ := h.grps
  obtain ⟨p2, k2, e2, r2⟩ := h.usrs
  obtain ⟨p3, k3, e3, r3⟩ := h.accs
  refine ⟨⟨p0, k0, e0, r0.cap, r0.max, r0.len, ?_⟩, ⟨p1, k1, gs, e1, ⟨r1.cap, r1.max, r1.len, .inl rfl⟩, ?_⟩, ⟨p2, k2, e2, ⟨r2.cap, r2.max, r2.len, .inl rfl⟩⟩, ⟨p3, k3, e3, ⟨r3.cap, r3.max, r3.len, .inl rfl⟩⟩⟩
  · rcases r0.cells with h0 | ⟨b, o, e, hl, hc⟩
    · cases h0
    · have hne : b ≠ g := by
        rintro rfl
        have := hc 1 (.int .i64 x.kind) rfl
        rw [at_cell hz] at this
        exact zero_int this
      exact .inr ⟨b, o, e, Nat.lt_of_lt_of_le hl ho.size, fun j u hu => (ho.cell (p := ⟨b, o + j, none⟩) hl hne).trans (hc j u hu)⟩
  · cases g1
    exact .nil
/-- what Load tells there -/
def ldV (v0 v1 v2 v3 : Value) : Value := confV v0 v1 v2 v3 [] [] [] [] [] [] [] [] [] []
section
variable {o : Oper} {a : Act} {w : World} {K : Act → World → Prop} {Q : Exit → Act → World → Prop}
theorem wp_addC (t : Nat) (s c : Bs) (ho : o.op = .binOp .add 9 (.tmp t) (.const (.string ⟨c.toArray⟩)) 9) (h1 : a.tmps[t]? = some (.string ⟨s.toArray⟩)) (hl : s.length + c.length ≤ 1000000) (h : K (a.put o.dst (.string ⟨(s ++ c).toArray⟩)) w) : Oper.wp Tryz.prog o a w K Q := by
  obtain ⟨d, op, ty, ps, af, gd⟩ := o
  cases ho
  unfold Oper.wp
  have e : (⟨s.toArray⟩ : ByteArray) ++ ⟨c.toArray⟩ = ⟨(s ++ c).toArray⟩ := by apply ByteArray.ext; simp [ByteArray.data_append]
  have hl2 : ¬ 9223372036854775807 < s.length + c.length := by omega
  simp [go_sem, h1, hl2, Oper.upon]
  first | exact h | (rw [e]; exact h) | (simp [e]; exact h)
theorem wp_addT (t u : Nat) (s c : Bs) (ho : o.op = .binOp .add 9 (.tmp t) (.tmp u) 9) (h1 : a.tmps[t]? = some (.string ⟨s.toArray⟩)) (h2 : a.tmps[u]? = some (.string ⟨c.toArray⟩)) (hl : s.length + c.length ≤ 1000000) (h : K (a.put o.dst (.string ⟨(s ++ c).toArray⟩)) w) : Oper.wp Tryz.prog o a w K Q := by
  obtain ⟨d, op, ty, ps, af, gd⟩ := o
  cases ho
  unfold Oper.wp
  have e : (⟨s.toArray⟩ : ByteArray) ++ ⟨c.toArray⟩ = ⟨(s ++ c).toArray⟩ := by apply ByteArray.ext; simp [ByteArray.data_append]
  have hl2 : ¬ 9223372036854775807 < s.length + c.length := by omega
  simp [go_sem, h1, h2, hl2, Oper.upon]
  first | exact h | (rw [e]; exact h) | (simp [e]; exact h)
theorem wp_cPrint (t : Nat) (v : Value) (ts : Array TypeId) (ho : o.op = .call { callee := .value (.func 8), args := #[.tmp t], argTypes := ts }) (h1 : a.tmps[t]? = some v) (h : Calls Tryz.prog 8 #[v] w (fun e w2 => ∃ v, e = .returned v ∧ K (a.put o.dst v) w2)) : Oper.wp Tryz.prog o a w K Q := by
  obtain ⟨d, op, ty, ps, af, gd⟩ := o
  cases ho
  unfold Oper.wp
  simp [go_sem, Oper.upon, h1]
  refine h.mono ?_
  rintro e w2 ⟨v, rfl, hk⟩
  exact hk
theorem wp_cDec (t : Nat) (v : Value) (ts : Array TypeId) (ho : o.op = .call { callee := .value (.func 15), args := #[.tmp t], argTypes := ts }) (h1 : a.tmps[t]? = some v) (h : Calls Tryz.prog 15 #[v] w (fun e w2 => ∃ v, e = .returned v ∧ K (a.put o.dst v) w2)) : Oper.wp Tryz.prog o a w K Q := by
  obtain ⟨d, op, ty, ps, af, gd⟩ := o
  cases ho
  unfold Oper.wp
  simp [go_sem, Oper.upon, h1]
  refine h.mono ?_
  rintro e w2 ⟨v, rfl, hk⟩
  exact hk
theorem wp_cLoad (t : Nat) (v : Value) (ts : Array TypeId) (ho : o.op = .call { callee := .value (.func 7), args := #[.tmp t], argTypes := ts }) (h1 : a.tmps[t]? = some v) (h : Calls Tryz.prog 7 #[v] w (fun e w2 => ∃ v, e = .returned v ∧ K (a.put o.dst v) w2)) : Oper.wp Tryz.prog o a w K Q := by
  obtain ⟨d, op, ty, ps, af, gd⟩ := o
  cases ho
  unfold Oper.wp
  simp [go_sem, Oper.upon, h1]
  refine h.mono ?_
  rintro e w2 ⟨v, rfl, hk⟩
  exact hk
theorem wp_cWorks (ts : Array TypeId) (ho : o.op = .call { callee := .value (.func 6), args := #[], argTypes := ts }) (h : Calls Tryz.prog 6 #[] w (fun e w2 => ∃ v, e = .returned v ∧ K (a.put o.dst v) w2)) : Oper.wp Tryz.prog o a w K Q := by
  obtain ⟨d, op, ty, ps, af, gd⟩ := o
  cases ho
  unfold Oper.wp
  simp [go_sem, Oper.upon]
  refine h.mono ?_
  rintro e w2 ⟨v, rfl, hk⟩
  exact hk
theorem wp_ext (t i : Nat) (vs : Array Value) (v : Value) (ho : o.op = .extract (.tmp t) i) (h1 : a.tmps[t]? = some (.tuple vs)) (hv : vs[i]? = some v) (h : K (a.put o.dst v) w) : Oper.wp Tryz.prog o a w K Q := by
  obtain ⟨d, op, ty, ps, af, gd⟩ := o
  cases ho
  unfold Oper.wp
  simp [go_sem, h1, hv, Oper.upon]
  exact h
theorem wp_new (ho : o.op = .alloc 29) (h : K (a.put o.dst (.pointer (some ⟨w.heap.size, 0, none⟩))) (w.alloc (.cells zeroC 29))) : Oper.wp Tryz.prog o a w K Q := by
  obtain ⟨d, op, ty, ps, af, gd⟩ := o
  cases ho
  unfold Oper.wp
  simp [go_sem, Oper.upon]
  exact h
set_option maxHeartbeats 4000000 in
theorem wp_store14 (t u g : Nat) (p0 p1 p2 p3 : Option Addr) (k0 k1 k2 k3 : Nat) (ho : o.op = .store 29 (.tmp t) (.tmp u)) (hd : o.dst = none) (h1 : a.tmps[t]? = some (.pointer (some ⟨g, 0, none⟩))) (h2 : a.tmps[u]? = some (ldV (.slice p0 2 k0) (.slice p1 0 k1) (.slice p2 0 k2) (.slice p3 0 k3))) (hz : w.heap[g]? = some (.cells zeroC 29 (0, 0)))
    (h : ∀ w2, w2.heap[g]? = some (.cells #[.slice p0 2 k0, .slice p1 0 k1, .slice p2 0 k2, .slice p3 0 k3, .string ⟨#[]⟩, .string ⟨#[]⟩, .string ⟨#[]⟩, .string ⟨#[]⟩, .string ⟨#[]⟩, .string ⟨#[]⟩, .string ⟨#[]⟩, .string ⟨#[]⟩, .string ⟨#[]⟩, .string ⟨#[]⟩] 29 (0, 0)) → Out (fun i => i = g) w w2 → K a w2) : Oper.wp Tryz.prog o a w K Q := by
  have N2 := set14_row (y0 := .slice p0 2 k0) (y1 := .slice p1 0 k1) (y2 := .slice p2 0 k2) (y3 := .slice p3 0 k3) (y4 := .string ⟨#[]⟩) (y5 := .string ⟨#[]⟩) (y6 := .string ⟨#[]⟩) (y7 := .string ⟨#[]⟩) (y8 := .string ⟨#[]⟩) (y9 := .string ⟨#[]⟩) (y10 := .string ⟨#[]⟩) (y11 := .string ⟨#[]⟩) (y12 := .string ⟨#[]⟩) (y13 := .string ⟨#[]⟩) hz
  have O2 := set14_out w g (.slice p0 2 k0) (.slice p1 0 k1) (.slice p2 0 k2) (.slice p3 0 k3) (.string ⟨#[]⟩) (.string ⟨#[]⟩) (.string ⟨#[]⟩) (.string ⟨#[]⟩) (.string ⟨#[]⟩) (.string ⟨#[]⟩) (.string ⟨#[]⟩) (.string ⟨#[]⟩) (.string ⟨#[]⟩) (.string ⟨#[]⟩)
  have hk := h _ N2 O2
  clear h N2 O2
  have c0 : w.cell? ⟨g, 0, none⟩ = some (.slice none 0 0) := at_cell hz 0
  have f0 := at_frozen hz 0
  have c1 : w.cell? ⟨g, 1, none⟩ = some (.slice none 0 0) := at_cell hz 1
  have f1 := at_frozen hz 1
  have c2 : w.cell? ⟨g, 2, none⟩ = some (.slice none 0 0) := at_cell hz 2
  have f2 := at_frozen hz 2
  have c3 : w.cell? ⟨g, 3, none⟩ = some (.slice none 0 0) := at_cell hz 3
  have f3 := at_frozen hz 3
  have c4 : w.cell? ⟨g, 4, none⟩ = some (.string ⟨#[]⟩) := at_cell hz 4
  have f4 := at_frozen hz 4
  have c5 : w.cell? ⟨g, 5, none⟩ = some (.string ⟨#[]⟩) := at_cell hz 5
  have f5 := at_frozen hz 5
  have c6 : w.cell? ⟨g, 6, none⟩ = some (.string ⟨#[]⟩) := at_cell hz 6
  have f6 := at_frozen hz 6
  have c7 : w.cell? ⟨g, 7, none⟩ = some (.string ⟨#[]⟩) := at_cell hz 7
  have f7 := at_frozen hz 7
  have c8 : w.cell? ⟨g, 8, none⟩ = some (.string ⟨#[]⟩) := at_cell hz 8
  have f8 := at_frozen hz 8
  have c9 : w.cell? ⟨g, 9, none⟩ = some (.string ⟨#[]⟩) := at_cell hz 9
  have f9 := at_frozen hz 9
  have c10 : w.cell? ⟨g, 10, none⟩ = some (.string ⟨#[]⟩) := at_cell hz 10
  have f10 := at_frozen hz 10
  have c11 : w.cell? ⟨g, 11, none⟩ = some (.string ⟨#[]⟩) := at_cell hz 11
  have f11 := at_frozen hz 11
  have c12 : w.cell? ⟨g, 12, none⟩ = some (.string ⟨#[]⟩) := at_cell hz 12
  have f12 := at_frozen hz 12
  have c13 : w.cell? ⟨g, 13, none⟩ = some (.string ⟨#[]⟩) := at_cell hz 13
  have f13 := at_frozen hz 13
  clear hz
  unfold ldV confV at h2
  obtain ⟨d, op, ty, ps, af, gd⟩ := o
  cases ho
  cases hd
  unfold Oper.wp
  simp [go_sem, h1, h2, c0, f0, c1, f1, c2, f2, c3, f3, c4, f4, c5, f5, c6, f6, c7, f7, c8, f8, c9, f9, c10, f10, c11, f11, c12, f12, c13, f13, Oper.upon]
  exact hk
theorem wp_ixK (t g off n c k : Nat) (ho : o.op = .indexAddr 23 (.tmp t) (.const (.int .i64 k))) (h1 : a.tmps[t]? = some (.slice (some ⟨g, off, none⟩) n c)) (hk : k < n) (h : K (a.put o.dst (.pointer (some ⟨g, off + k * 10, none⟩))) w) : Oper.wp Tryz.prog o a w K Q := by
  obtain ⟨d, op, ty, ps, af, gd⟩ := o
  cases ho
  unfold Oper.wp
  have q1 : (k : Int) < (n : Int) := by omega
  simp [go_sem, h1, q1, Oper.upon]
  exact h
theorem wp_eqC (t u : Nat) (x : Cn) (ho : o.op = .binOp .eql 42 (.tmp t) (.tmp u) 42) (h1 : a.tmps[t]? = some (cnV x)) (h2 : a.tmps[u]? = some (cnV x)) (h : K (a.put o.dst (.bool true)) w) : Oper.wp Tryz.prog o a w K Q := by
  unfold cnV at h1 h2
  obtain ⟨d, op, ty, ps, af, gd⟩ := o
  cases ho
  unfold Oper.wp
  simp [go_sem, h1, h2, Oper.upon]
  exact h
theorem wp_pickF (t u : Nat) (v : Value) (ho : o.op = .pick (.tmp t) (.tmp u) (.const (.bool false))) (h1 : a.tmps[t]? = some (.bool true)) (h2 : a.tmps[u]? = some v) (h : K (a.put o.dst v) w) : Oper.wp Tryz.prog o a w K Q := by
  obtain ⟨d, op, ty, ps, af, gd⟩ := o
  cases ho
  unfold Oper.wp
  simp [go_sem, h1, h2, Oper.upon]
  exact h
theorem wp_ldConf (t g : Nat) (vs : Array Value) (hs : vs.size = 14) (u0 u1 u2 u3 u4 u5 u6 u7 u8 u9 u10 u11 u12 u13 : Value) (hv : vs = #[u0, u1, u2, u3, u4, u5, u6, u7, u8, u9, u10, u11, u12, u13]) (ho : o.op = .load 29 (.tmp t)) (h1 : a.tmps[t]? = some (.pointer (some ⟨g, 0, none⟩))) (hc : w.heap[g]? = some (.cells vs 29 (0, 0))) (h : K (a.put o.dst (.agg vs)) w) : Oper.wp Tryz.prog o a w K Q := by
  subst hv
  have c0 : w.cell? ⟨g, 0, none⟩ = some u0 := at_cell hc 0
  have c1 : w.cell? ⟨g, 1, none⟩ = some u1 := at_cell hc 1
  have c2 : w.cell? ⟨g, 2, none⟩ = some u2 := at_cell hc 2
  have c3 : w.cell? ⟨g, 3, none⟩ = some u3 := at_cell hc 3
  have c4 : w.cell? ⟨g, 4, none⟩ = some u4 := at_cell hc 4
  have c5 : w.cell? ⟨g, 5, none⟩ = some u5 := at_cell hc 5
  have c6 : w.cell? ⟨g, 6, none⟩ = some u6 := at_cell hc 6
  have c7 : w.cell? ⟨g, 7, none⟩ = some u7 := at_cell hc 7
  have c8 : w.cell? ⟨g, 8, none⟩ = some u8 := at_cell hc 8
  have c9 : w.cell? ⟨g, 9, none⟩ = some u9 := at_cell hc 9
  have c10 : w.cell? ⟨g, 10, none⟩ = some u10 := at_cell hc 10
  have c11 : w.cell? ⟨g, 11, none⟩ = some u11 := at_cell hc 11
  have c12 : w.cell? ⟨g, 12, none⟩ = some u12 := at_cell hc 12
  have c13 : w.cell? ⟨g, 13, none⟩ = some u13 := at_cell hc 13
  obtain ⟨d, op, ty, ps, af, gd⟩ := o
  cases ho
  unfold Oper.wp
  simp [go_sem, h1, c0, c1, c2, c3, c4, c5, c6, c7, c8, c9, c10, c11, c12, c13, Oper.upon]
  exact h
end
end Go.Proofs.YtajfdachpdkbcaaGreatDoor.Conf
end

section
namespace Go.Proofs.YtajfdachpdkbcaaGreatDoor.Conf
open Go.RowKit Go.Proofs.YtajfdachpdkbcaaGreatDoor.Own Go.Proofs.YtajfdachpdkbcaaGreatDoor.Rw Go.Proofs.YtajfdachpdkbcaaGreatDoor.Tree

set_option maxRecDepth 100000 in
set_option maxHeartbeats 4000000 in
theorem rsame_calls (xs ys : List Bs) (p q : Option Addr) (n m c d : Nat) (hn : n = xs.length) (hm : m = ys.length) (w : World) (h1 : Rd w 1 p c n (xs.flatMap stv)) (h2 : Rd w 1 q d m (ys.flatMap stv)) :
    Calls Tryz.prog 28 #[.slice p n c, .slice q m d] w fun e w' => ∃ r, e = .returned (.bool r) ∧ (r = true ↔ xs = ys) ∧ Below w.heap.size w w' := by
  have H1 := Lib.hid h1
  have H2 := Lib.hid h2
  have hm1 := h1.max
  have hc1 := h1.cap
  have hm2 := h2.max
  have hc2 := h2.cap
  unfold maxLen at hm1 hm2
  clear h1 h2
  by_cases hnm : n = m
  · have b1 : ((n : Int) != (m : Int)) = false := by simp [hnm]
    have HNM := Lib.hid hnm
    have HN := Lib.hid hn
    have HM := Lib.hid hm
    clear hnm hn hm
    go_enter Tryz.func28, Tryz.ntmps28
    go_wp2_with fail
    go_loopw [5] (fun i wr => ∃ k : Nat, k ≤ n ∧ i = .int .i64 k ∧ Below w.heap.size w wr ∧ (xs.drop k = ys.drop k ↔ xs = ys)) (fun i _ => n - (Tree.intOf i).toNat)
    case atStart => exact ⟨0, by omega, rfl, Below.refl _ _, Iff.rfl⟩
    case round =>
      obtain ⟨k, hk, rfl, hb, hd⟩ := hrel
      rename World => wr
      have HB := Lib.hid hb
      clear hb
      rcases Nat.lt_or_eq_of_le hk with hlt | rfl
      · have hl1 : k < xs.length := by rw [← HN.out]; exact hlt
        have hl2 : k < ys.length := by rw [← HM.out, ← HNM.out]; exact hlt
        obtain ⟨g, o, rfl, hg, c1⟩ := rd_atS (H1.out.below HB.out) HN.out hl1
        obtain ⟨g', o', rfl, hg', c2⟩ := rd_atS (H2.out.below HB.out) HM.out hl2
        have q1 : (k : Int) < (n : Int) := by omega
        rw [List.drop_eq_getElem_cons hl1, List.drop_eq_getElem_cons hl2] at hd
        have HD := Lib.hid hd
        have C1 := Lib.hid c1
        have C2 := Lib.hid c2
        have HK := Lib.hid (show k < m by have := HNM.out; omega)
        generalize xs[k] = x at *
        generalize ys[k] = y at *
        clear hd hl1 hl2 c1 c2
        go_wp2_with fail
        refine Reg.wp_vals (by kernel_rfl) [17, 18, 19, 20, 21, 22, 23, 24, 25] [.slice (some ⟨g, o, none⟩) n c, .int .i64 k, .pointer (some ⟨g, o + k * 1, none⟩), stV x, .slice (some ⟨g', o', none⟩) m d, .int .i64 k, .pointer (some ⟨g', o' + k * 1, none⟩), stV y, .bool (!eqSt x y)] (by kernel_rfl) ?_ ?_
        · intro i op a' ho hdp hot
          have t0 : a'.tmps[0]? = some _ := (hot 0 (by decide)).trans rfl
          have t1 : a'.tmps[1]? = some _ := (hot 1 (by decide)).trans rfl
          have t5 : a'.tmps[5]? = some _ := (hot 5 (by decide)).trans rfl
          match i, ho, hdp with
          | 0, ho, hdp => obtain rfl := Option.some.inj ho; exact wp_mvS 0 _ rfl t0 ⟨rfl, rfl⟩
          | 1, ho, hdp => obtain rfl := Option.some.inj ho; exact wp_mvS 5 _ rfl t5 ⟨rfl, rfl⟩
          | 2, ho, hdp => obtain rfl := Option.some.inj ho; exact wp_ixS 17 18 _ _ _ _ _ rfl (hdp 0 (Reg.mem_of (by kernel_rfl))) (hdp 1 (Reg.mem_of (by kernel_rfl))) hlt ⟨rfl, rfl⟩
          | 3, ho, hdp => obtain rfl := Option.some.inj ho; exact wp_ldS 19 _ _ x rfl (hdp 2 (Reg.mem_of (by kernel_rfl))) C1.out ⟨rfl, rfl⟩
          | 4, ho, hdp => obtain rfl := Option.some.inj ho; exact wp_mvS 1 _ rfl t1 ⟨rfl, rfl⟩
          | 5, ho, hdp => obtain rfl := Option.some.inj ho; exact wp_mvS 5 _ rfl t5 ⟨rfl, rfl⟩
          | 6, ho, hdp => obtain rfl := Option.some.inj ho; exact wp_ixS 21 22 _ _ _ _ _ rfl (hdp 4 (Reg.mem_of (by kernel_rfl))) (hdp 5 (Reg.mem_of (by kernel_rfl))) HK.out ⟨rfl, rfl⟩
          | 7, ho, hdp => obtain rfl := Option.some.inj ho; exact wp_ldS 23 _ _ y rfl (hdp 6 (Reg.mem_of (by kernel_rfl))) C2.out ⟨rfl, rfl⟩
          | 8, ho, hdp => obtain rfl := Option.some.inj ho; exact wp_neqS 20 24 x y rfl (hdp 3 (Reg.mem_of (by kernel_rfl))) (hdp 7 (Reg.mem_of (by kernel_rfl))) ⟨rfl, rfl⟩
          | i + 9, ho, _ => exact absurd ho (by simp)
        · intro us hul hus
          match us, hul, hus with
          | [x0, x1, x2, x3, x4, x5, x6, x7, x8], _, hus =>
            have h8 : x8 = .bool (!eqSt x y) := hus 8 _ rfl
            clear hus
            simp only [List.zip, List.zipWith, Reg.puts, Act.put, List.setIfInBounds_toArray, List.set_cons_succ, List.set_cons_zero]
            rcases Bool.eq_false_or_eq_true (eqSt x y) with hxy | hxy
            · have HX := Lib.hid (eqSt_iff.1 hxy)
              have h9 : x8 = .bool false := h8.trans (by rw [hxy]; rfl)
              clear hxy h8
              subst h9
              go_wp2_with fail
              go_roundw
              case rel => exact ⟨k + 1, by omega, by go_num, below_drew HB.out, by rw [← HD.out, HX.out]; simp⟩
              case measure => simp [Tree.intOf]; omega
            · have HX := Lib.hid (show ¬ xs = ys from fun e => by
                have := HD.out.2 e
                rw [List.cons.injEq] at this
                rw [eqSt_iff.2 this.1] at hxy; cases hxy)
              have h9 : x8 = .bool true := h8.trans (by rw [hxy]; rfl)
              clear hxy h8
              subst h9
              go_wp2_with fail
              go_ret
              exact ⟨false, rfl, ⟨fun h => (by cases h), fun h => absurd h HX.out⟩, below_drew HB.out⟩
      · have HT := Lib.hid (show xs = ys from hd.1 (by rw [List.drop_eq_nil_of_le (by have := HN.out; omega), List.drop_eq_nil_of_le (by have := HM.out; have := HNM.out; omega)]))
        clear hd
        go_wp2_with fail
        go_ret
        exact ⟨true, rfl, ⟨fun _ => HT.out, fun _ => rfl⟩, HB.out⟩
  · have b1 : ((n : Int) != (m : Int)) = true := by simp; omega
    have HT := Lib.hid (show ¬ xs = ys from fun e => hnm (by rw [hn, hm, e]))
    clear hn hm
    go_enter Tryz.func28, Tryz.ntmps28
    go_wp2_with fail
    go_ret
    exact ⟨false, rfl, ⟨fun h => (by cases h), fun h => absurd h HT.out⟩, Below.refl _ _⟩
end Go.Proofs.YtajfdachpdkbcaaGreatDoor.Conf
end

section
namespace Go.Proofs.YtajfdachpdkbcaaGreatDoor.Conf
open Go.RowKit Go.Proofs.YtajfdachpdkbcaaGreatDoor.Own Go.Proofs.YtajfdachpdkbcaaGreatDoor.Rw Go.Proofs.YtajfdachpdkbcaaGreatDoor.Tree

theorem cf_ext' {a b : Cf} (h0 : a.cons = b.cons) (h1 : a.grps = b.grps) (h2 : a.usrs = b.usrs) (h3 : a.accs = b.accs) (h4 : a.brks = b.brks) : a = b := by
  cases a; cases b; cases h0; cases h1; cases h2; cases h3; cases h4; rfl
section
variable {o : Oper} {a : Act} {w : World} {K : Act → World → Prop} {Q : Exit → Act → World → Prop}
theorem wp_fC (k : Nat) (hk : k < 4) (t b : Nat) (ho : o.op = .fieldAddr 29 (.tmp t) k) (h1 : a.tmps[t]? = some (.pointer (some ⟨b, 0, none⟩))) (h : K (a.put o.dst (.pointer (some ⟨b, k, none⟩))) w) : Oper.wp Tryz.prog o a w K Q := by
  obtain ⟨d, op, ty, ps, af, gd⟩ := o
  cases ho
  unfold Oper.wp
  match k, hk with
  | 0, _ => simp [go_sem, h1, Oper.upon]; exact h
  | 1, _ => simp [go_sem, h1, Oper.upon]; exact h
  | 2, _ => simp [go_sem, h1, Oper.upon]; exact h
  | 3, _ => simp [go_sem, h1, Oper.upon]; exact h
theorem wp_fG (k : Nat) (hk : k < 2) (t b off : Nat) (ho : o.op = .fieldAddr 65 (.tmp t) k) (h1 : a.tmps[t]? = some (.pointer (some ⟨b, off, none⟩))) (h : K (a.put o.dst (.pointer (some ⟨b, off + k, none⟩))) w) : Oper.wp Tryz.prog o a w K Q := by
  obtain ⟨d, op, ty, ps, af, gd⟩ := o
  cases ho
  unfold Oper.wp
  match k, hk with
  | 0, _ => simp [go_sem, h1, Oper.upon]; exact h
  | 1, _ => simp [go_sem, h1, Oper.upon]; exact h
theorem wp_ixG (t u g off n c k : Nat) (ho : o.op = .indexAddr 24 (.tmp t) (.tmp u)) (h1 : a.tmps[t]? = some (.slice (some ⟨g, off, none⟩) n c)) (h2 : a.tmps[u]? = some (.int .i64 k)) (hk : k < n) (h : K (a.put o.dst (.pointer (some ⟨g, off + k * 2, none⟩))) w) : Oper.wp Tryz.prog o a w K Q := by
  obtain ⟨d, op, ty, ps, af, gd⟩ := o
  cases ho
  have q1 : (k : Int) < (n : Int) := by omega
  unfold Oper.wp
  simp [go_sem, h1, h2, q1, Oper.upon]
  exact h
theorem wp_rsame (t u : Nat) (x y : Value) (ts : Array TypeId) (ho : o.op = .call { callee := .value (.func 28), args := #[.tmp t, .tmp u], argTypes := ts }) (h1 : a.tmps[t]? = some x) (h2 : a.tmps[u]? = some y) (h : Calls Tryz.prog 28 #[x, y] w (fun e w2 => ∃ v, e = .returned v ∧ K (a.put o.dst v) w2)) : Oper.wp Tryz.prog o a w K Q := by
  obtain ⟨d, op, ty, ps, af, gd⟩ := o
  cases ho
  unfold Oper.wp
  simp [go_sem, Oper.upon, h1, h2]
  refine h.mono ?_
  rintro e w2 ⟨v, rfl, hk⟩
  exact hk
theorem wp_not (t : Nat) (b : Bool) (ho : o.op = .unOp .not 4 (.tmp t)) (h1 : a.tmps[t]? = some (.bool b)) (h : K (a.put o.dst (.bool (!b))) w) : Oper.wp Tryz.prog o a w K Q := by
  obtain ⟨d, op, ty, ps, af, gd⟩ := o
  cases ho
  unfold Oper.wp
  simp [go_sem, h1, Oper.upon]
  exact h
theorem wp_pickT (t u : Nat) (v : Value) (ho : o.op = .pick (.tmp t) (.const (.bool true)) (.tmp u)) (h1 : a.tmps[t]? = some (.bool false)) (h2 : a.tmps[u]? = some v) (h : K (a.put o.dst v) w) : Oper.wp Tryz.prog o a w K Q := by
  obtain ⟨d, op, ty, ps, af, gd⟩ := o
  cases ho
  unfold Oper.wp
  simp [go_sem, h1, h2, Oper.upon]
  exact h
theorem wp_pickT1 (t u : Nat) (ho : o.op = .pick (.tmp t) (.const (.bool true)) (.tmp u)) (h1 : a.tmps[t]? = some (.bool true)) (h : K (a.put o.dst (.bool true)) w) : Oper.wp Tryz.prog o a w K Q := by
  obtain ⟨d, op, ty, ps, af, gd⟩ := o
  cases ho
  unfold Oper.wp
  simp [go_sem, h1, Oper.upon]
  exact h
theorem wp_lslC (t : Nat) (ad : Addr) (v : Value) (ho : o.op = .load 23 (.tmp t)) (h1 : a.tmps[t]? = some (.pointer (some ad))) (hc : w.cell? ad = some v) (h : K (a.put o.dst v) w) : Oper.wp Tryz.prog o a w K Q := by
  obtain ⟨d, op, ty, ps, af, gd⟩ := o
  cases ho
  unfold Oper.wp
  simp [go_sem, h1, hc, Oper.upon]
  exact h
theorem wp_lslG (t : Nat) (ad : Addr) (v : Value) (ho : o.op = .load 24 (.tmp t)) (h1 : a.tmps[t]? = some (.pointer (some ad))) (hc : w.cell? ad = some v) (h : K (a.put o.dst v) w) : Oper.wp Tryz.prog o a w K Q := by
  obtain ⟨d, op, ty, ps, af, gd⟩ := o
  cases ho
  unfold Oper.wp
  simp [go_sem, h1, hc, Oper.upon]
  exact h
theorem wp_lslU (t : Nat) (ad : Addr) (v : Value) (ho : o.op = .load 25 (.tmp t)) (h1 : a.tmps[t]? = some (.pointer (some ad))) (hc : w.cell? ad = some v) (h : K (a.put o.dst v) w) : Oper.wp Tryz.prog o a w K Q := by
  obtain ⟨d, op, ty, ps, af, gd⟩ := o
  cases ho
  unfold Oper.wp
  simp [go_sem, h1, hc, Oper.upon]
  exact h
theorem wp_lslA (t : Nat) (ad : Addr) (v : Value) (ho : o.op = .load 26 (.tmp t)) (h1 : a.tmps[t]? = some (.pointer (some ad))) (hc : w.cell? ad = some v) (h : K (a.put o.dst v) w) : Oper.wp Tryz.prog o a w K Q := by
  obtain ⟨d, op, ty, ps, af, gd⟩ := o
  cases ho
  unfold Oper.wp
  simp [go_sem, h1, hc, Oper.upon]
  exact h
theorem wp_lslS (t : Nat) (ad : Addr) (v : Value) (ho : o.op = .load 55 (.tmp t)) (h1 : a.tmps[t]? = some (.pointer (some ad))) (hc : w.cell? ad = some v) (h : K (a.put o.dst v) w) : Oper.wp Tryz.prog o a w K Q := by
  obtain ⟨d, op, ty, ps, af, gd⟩ := o
  cases ho
  unfold Oper.wp
  simp [go_sem, h1, hc, Oper.upon]
  exact h
end
end Go.Proofs.YtajfdachpdkbcaaGreatDoor.Conf
end

section
namespace Go.Proofs.YtajfdachpdkbcaaGreatDoor.Conf
open Go.RowKit Go.Proofs.YtajfdachpdkbcaaGreatDoor.Own Go.Proofs.YtajfdachpdkbcaaGreatDoor.Rw Go.Proofs.YtajfdachpdkbcaaGreatDoor.Tree
open Go.Proofs.YtajfdachpdkbcaaGreatDoor.Digit (dec)

def LkSp (x : Cn) (k : Int) (vals : List Value) (i : Nat) (w : World) (v : Value) : Prop := match i with
  | 11 => ∃ p0 p1 p2 p3 k0 k1 k2 k3, v = .tuple #[ldV (.slice p0 2 k0) (.slice p1 0 k1) (.slice p2 0 k2) (.slice p3 0 k3), .nilIface] ∧ CfR w (.slice p0 2 k0) (.slice p1 0 k1) (.slice p2 0 k2) (.slice p3 0 k3) (lf2 x k)
  | 12 => ∃ p0 p1 p2 p3 k0 k1 k2 k3, v = .tuple #[ldV (.slice p0 2 k0) (.slice p1 0 k1) (.slice p2 0 k2) (.slice p3 0 k3), .nilIface] ∧ CfR w (.slice p0 2 k0) (.slice p1 0 k1) (.slice p2 0 k2) (.slice p3 0 k3) (lf2 x k)
  | 13 => ∃ p0 p1 p2 p3 k0 k1 k2 k3, v = ldV (.slice p0 2 k0) (.slice p1 0 k1) (.slice p2 0 k2) (.slice p3 0 k3) ∧ CfR w (.slice p0 2 k0) (.slice p1 0 k1) (.slice p2 0 k2) (.slice p3 0 k3) (lf2 x k)
  | 15 => True
  | 16 => True
  | i => v = vals.getD i undef
structure LkG (x : Cn) (k : Int) (w0 : World) (listed : Array Bool) (w : World) (g : Nat) : Prop where
  low : w0.heap.size ≤ g
  lt : g < w.heap.size
  new : listed.getD 16 false = false → w.heap[g]? = some (.cells zeroC 29 (0, 0))
  old : listed.getD 16 false = true → ∃ p0 p1 p2 p3 k0 k1 k2 k3, w.heap[g]? = some (.cells #[.slice p0 2 k0, .slice p1 0 k1, .slice p2 0 k2, .slice p3 0 k3, .string ⟨#[]⟩, .string ⟨#[]⟩, .string ⟨#[]⟩, .string ⟨#[]⟩, .string ⟨#[]⟩, .string ⟨#[]⟩, .string ⟨#[]⟩, .string ⟨#[]⟩, .string ⟨#[]⟩, .string ⟨#[]⟩] 29 (0, 0)) ∧ CfR w (.slice p0 2 k0) (.slice p1 0 k1) (.slice p2 0 k2) (.slice p3 0 k3) (lf2 x k)
def LkJ (x : Cn) (k : Int) (w0 : World) (listed : Array Bool) (a : Act) (w : World) : Prop :=
  Below w0.heap.size w0 w ∧ (listed.getD 15 false = true → ∃ g, a.tmps[7]? = some (.pointer (some ⟨g, 0, none⟩)) ∧ LkG x k w0 listed w g)
theorem lk_mono {x : Cn} {k : Int} {vals : List Value} {i : Nat} {w w' : World} {v : Value} (hc : ∀ v0 v1 v2 v3, CfR w v0 v1 v2 v3 (lf2 x k) → CfR w' v0 v1 v2 v3 (lf2 x k)) (h : LkSp x k vals i w v) : LkSp x k vals i w' v := by
  unfold LkSp at h ⊢
  split at h
  · obtain ⟨p0, p1, p2, p3, k0, k1, k2, k3, e, h⟩ := h; exact ⟨p0, p1, p2, p3, k0, k1, k2, k3, e, hc _ _ _ _ h⟩
  · obtain ⟨p0, p1, p2, p3, k0, k1, k2, k3, e, h⟩ := h; exact ⟨p0, p1, p2, p3, k0, k1, k2, k3, e, hc _ _ _ _ h⟩
  · obtain ⟨p0, p1, p2, p3, k0, k1, k2, k3, e, h⟩ := h; exact ⟨p0, p1, p2, p3, k0, k1, k2, k3, e, hc _ _ _ _ h⟩
  · trivial
  · trivial
  · exact h
theorem lk_simple {x : Cn} {k : Int} {vals : List Value} {W : World} {listed : Array Bool} {i : Nat} {d : Option Tmp} {a : Act} {w w2 : World} {v : Value} (h15 : i ≠ 15) (h16 : i ≠ 16) (hd : d ≠ some 7) (hJ : LkJ x k W listed a w) (hb : Below w.heap.size w w2) (h : LkSp x k vals i w2 v) :
    Reg.Leaves4 (LkSp x k vals) (LkJ x k W) listed i d a w (a.put d v) w2 := by
  refine ⟨v, rfl, h, fun j u _ _ hj => lk_mono (fun _ _ _ _ hc => hc.below hb) hj, hJ.1.trans (hb.mono hJ.1.size), fun h2 => ?_⟩
  rw [getD_set_ne false h15] at h2
  obtain ⟨g, e, hg⟩ := hJ.2 h2
  refine ⟨g, by rw [Reg.put_ne a v hd]; exact e, hg.low, Nat.lt_of_lt_of_le hg.lt hb.size, fun h3 => ?_, fun h3 => ?_⟩
  · rw [getD_set_ne false h16] at h3
    exact (hb.block _ hg.lt).trans (hg.new h3)
  · rw [getD_set_ne false h16] at h3
    obtain ⟨p0, p1, p2, p3, k0, k1, k2, k3, e2, hc⟩ := hg.old h3
    exact ⟨p0, p1, p2, p3, k0, k1, k2, k3, (hb.block _ hg.lt).trans e2, hc.below hb⟩
theorem lk_start (x : Cn) (k : Int) (W : World) (m : Nat) (a : Act) : LkJ x k W (Array.replicate m false) a W.drew := ⟨⟨rfl, rfl, rfl, Nat.le_refl _, fun _ _ => rfl⟩, fun h => by
  have h2 : (Array.replicate m false).getD 15 false = false := by by_cases hm : 15 < m <;> simp [hm]
  rw [h2] at h; cases h⟩
theorem only {p q : Prop} {o : Oper} {y : Nat → Option Bool} (hg : o.guard = none) (h : p) : (Region.wanted o y = true → p) ∧ (Region.wanted o y = false → q) := ⟨fun _ => h, fun hf => by rw [Reg.wanted_none hg] at hf; cases hf⟩
theorem cfR_one (w : World) (x : Cn) (g : Nat) (h : w.heap[g]? = some (.cells #[.string ⟨x.name.toArray⟩, .int .i64 x.kind, .int .i64 x.lines, .int .i64 x.bytes, .int .i64 x.gens, .int .i64 x.size, .int .i64 x.base, .int .i64 x.cap, .int .i64 x.jit, .string ⟨x.init.toArray⟩] 42 (0, 0))) : CfR w (.slice (some ⟨g, 0, none⟩) 1 1) (.slice none 0 0) (.slice none 0 0) (.slice none 0 0) (lf1 x) := by
  refine ⟨⟨some ⟨g, 0, none⟩, 1, rfl, Nat.le_refl _, (by unfold maxLen; decide), rfl, .inr ⟨g, 0, rfl, at_lt h, fun j u hu => ?_⟩⟩, ⟨none, 0, [], rfl, ⟨Nat.le_refl _, (by unfold maxLen; decide), rfl, .inl rfl⟩, .nil⟩, ⟨none, 0, rfl, ⟨Nat.le_refl _, (by unfold maxLen; decide), rfl, .inl rfl⟩⟩, ⟨none, 0, rfl, ⟨Nat.le_refl _, (by unfold maxLen; decide), rfl, .inl rfl⟩⟩⟩
  rw [at_cell h, Nat.zero_add, ← hu]
  simp [lf1, cnv, str]
theorem wt_one {x : Cn} (h : Ints x) : wtL (nodes (lf1 x)) ≤ 2 * x.name.length + 2 * x.init.length + 1500 := by
  show wtL [conN x] ≤ _
  rw [wtL_cons, wtL_nil]
  exact wt_con2 h
theorem szd_one {x : Cn} (hx : Ints x) (h1 : x.name.length ≤ 40) (h2 : x.init.length ≤ 300) : Szd (lf1 x) :=
  ⟨⟨by show 1 ≤ 4096; decide, fun y hy => by obtain rfl := List.mem_singleton.1 hy; exact ⟨by omega, by omega, hx⟩⟩, ⟨by show 0 ≤ 4096; decide, fun y hy => by cases hy⟩, ⟨by show 0 ≤ 4096; decide, fun y hy => by cases hy⟩, ⟨by show 0 ≤ 4096; decide, fun y hy => by cases hy⟩, rfl, fun t ht => by
    obtain rfl := List.eq_of_mem_replicate ht
    decide⟩
set_option maxRecDepth 100000 in
set_option maxHeartbeats 16000000 in
theorem like_walk (x : Cn) (n : Nat) (hn : n < 256) (hx : Ints x) (w : World) (hT : Flt.Tab w) :
    Calls Tryz.prog 5 #[cnV x, .int .u8 n] w fun e w' => e = .returned (.bool true) ∧ Below w.heap.size w w' := by
  have HTab := Lib.hid hT
  have HX := Lib.hid hx
  clear hT hx
  have A0 := Lib.hid ((Below.refl w.heap.size w).alloc (Nat.le_refl _) (.cells #[.string ⟨x.name.toArray⟩, .int .i64 x.kind, .int .i64 x.lines, .int .i64 x.bytes, .int .i64 x.gens, .int .i64 x.size, .int .i64 x.base, .int .i64 x.cap, .int .i64 x.jit, .string ⟨x.init.toArray⟩] 42))
  unfold cnV
  by_cases h1 : 40 < x.name.length
  · have q1 : (40 : Int) < (x.name.length : Int) := by omega
    have HW := Lib.hid (works_calls _ (HTab.out.below A0.out))
    clear h1
    go_enter Tryz.func5, Tryz.ntmps5
    go_wp2_with fail
    refine HW.out.mono ?_
    rintro e w1 ⟨rfl, hb⟩
    have B := Lib.hid (A0.out.trans (hb.mono A0.out.size))
    clear hb HW
    go_wp2_with fail
    go_ret
    exact ⟨rfl, B.out⟩
  by_cases h2 : 300 < x.init.length
  · have q1 : ¬ (40 : Int) < (x.name.length : Int) := by omega
    have q2 : (300 : Int) < (x.init.length : Int) := by omega
    have HW := Lib.hid (works_calls _ (HTab.out.below A0.out))
    clear h1 h2
    go_enter Tryz.func5, Tryz.ntmps5
    go_wp2_with fail
    refine HW.out.mono ?_
    rintro e w1 ⟨rfl, hb⟩
    have B := Lib.hid (A0.out.trans (hb.mono A0.out.size))
    clear hb HW
    go_wp2_with fail
    go_ret
    exact ⟨rfl, B.out⟩
  have q1 : ¬ (40 : Int) < (x.name.length : Int) := by omega
  have q2 : ¬ (300 : Int) < (x.init.length : Int) := by omega
  have HSZ := Lib.hid (szd_one HX.out (by omega) (by omega))
  have HWT := Lib.hid (show wtL (nodes (lf1 x)) ≤ 3000 by have := wt_one HX.out; omega)
  have HNL := Lib.hid (show x.name.length ≤ 40 by omega)
  clear h1 h2
  have e1 : (w.alloc (.cells #[.string ⟨x.name.toArray⟩, .int .i64 x.kind, .int .i64 x.lines, .int .i64 x.bytes, .int .i64 x.gens, .int .i64 x.size, .int .i64 x.base, .int .i64 x.cap, .int .i64 x.jit, .string ⟨x.init.toArray⟩] 42)).heap.size = w.heap.size + 1 := by simp
  have e2 : ((w.alloc (.cells #[.string ⟨x.name.toArray⟩, .int .i64 x.kind, .int .i64 x.lines, .int .i64 x.bytes, .int .i64 x.gens, .int .i64 x.size, .int .i64 x.base, .int .i64 x.cap, .int .i64 x.jit, .string ⟨x.init.toArray⟩] 42)).alloc (.cells #[.string ⟨x.name.toArray⟩, .int .i64 x.kind, .int .i64 x.lines, .int .i64 x.bytes, .int .i64 x.gens, .int .i64 x.size, .int .i64 x.base, .int .i64 x.cap, .int .i64 x.jit, .string ⟨x.init.toArray⟩] 42)).heap.size = w.heap.size + 2 := by simp
  have NX := at_new w (.cells #[.string ⟨x.name.toArray⟩, .int .i64 x.kind, .int .i64 x.lines, .int .i64 x.bytes, .int .i64 x.gens, .int .i64 x.size, .int .i64 x.base, .int .i64 x.cap, .int .i64 x.jit, .string ⟨x.init.toArray⟩] 42)
  have NS := at_new (w.alloc (.cells #[.string ⟨x.name.toArray⟩, .int .i64 x.kind, .int .i64 x.lines, .int .i64 x.bytes, .int .i64 x.gens, .int .i64 x.size, .int .i64 x.base, .int .i64 x.cap, .int .i64 x.jit, .string ⟨x.init.toArray⟩] 42)) (.cells #[.string ⟨x.name.toArray⟩, .int .i64 x.kind, .int .i64 x.lines, .int .i64 x.bytes, .int .i64 x.gens, .int .i64 x.size, .int .i64 x.base, .int .i64 x.cap, .int .i64 x.jit, .string ⟨x.init.toArray⟩] 42)
  rw [e1] at NS
  have NC := at_new ((w.alloc (.cells #[.string ⟨x.name.toArray⟩, .int .i64 x.kind, .int .i64 x.lines, .int .i64 x.bytes, .int .i64 x.gens, .int .i64 x.size, .int .i64 x.base, .int .i64 x.cap, .int .i64 x.jit, .string ⟨x.init.toArray⟩] 42)).alloc (.cells #[.string ⟨x.name.toArray⟩, .int .i64 x.kind, .int .i64 x.lines, .int .i64 x.bytes, .int .i64 x.gens, .int .i64 x.size, .int .i64 x.base, .int .i64 x.cap, .int .i64 x.jit, .string ⟨x.init.toArray⟩] 42)) (.cells #[.slice (some ⟨w.heap.size + 1, 0, none⟩) 1 1, .slice none 0 0, .slice none 0 0, .slice none 0 0, .string ⟨#[]⟩, .string ⟨#[]⟩, .string ⟨#[]⟩, .string ⟨#[]⟩, .string ⟨#[]⟩, .string ⟨#[]⟩, .string ⟨#[]⟩, .string ⟨#[]⟩, .string ⟨#[]⟩, .string ⟨#[]⟩] 29)
  rw [e2] at NC
  have A1 := A0.out.alloc (by rw [e1]; omega) (.cells #[.string ⟨x.name.toArray⟩, .int .i64 x.kind, .int .i64 x.lines, .int .i64 x.bytes, .int .i64 x.gens, .int .i64 x.size, .int .i64 x.base, .int .i64 x.cap, .int .i64 x.jit, .string ⟨x.init.toArray⟩] 42)
  have Y1 := (Below.refl (w.alloc (.cells #[.string ⟨x.name.toArray⟩, .int .i64 x.kind, .int .i64 x.lines, .int .i64 x.bytes, .int .i64 x.gens, .int .i64 x.size, .int .i64 x.base, .int .i64 x.cap, .int .i64 x.jit, .string ⟨x.init.toArray⟩] 42)).heap.size (w.alloc (.cells #[.string ⟨x.name.toArray⟩, .int .i64 x.kind, .int .i64 x.lines, .int .i64 x.bytes, .int .i64 x.gens, .int .i64 x.size, .int .i64 x.base, .int .i64 x.cap, .int .i64 x.jit, .string ⟨x.init.toArray⟩] 42))).alloc (Nat.le_refl _) (.cells #[.string ⟨x.name.toArray⟩, .int .i64 x.kind, .int .i64 x.lines, .int .i64 x.bytes, .int .i64 x.gens, .int .i64 x.size, .int .i64 x.base, .int .i64 x.cap, .int .i64 x.jit, .string ⟨x.init.toArray⟩] 42)
  have Y2 := (Below.refl ((w.alloc (.cells #[.string ⟨x.name.toArray⟩, .int .i64 x.kind, .int .i64 x.lines, .int .i64 x.bytes, .int .i64 x.gens, .int .i64 x.size, .int .i64 x.base, .int .i64 x.cap, .int .i64 x.jit, .string ⟨x.init.toArray⟩] 42)).alloc (.cells #[.string ⟨x.name.toArray⟩, .int .i64 x.kind, .int .i64 x.lines, .int .i64 x.bytes, .int .i64 x.gens, .int .i64 x.size, .int .i64 x.base, .int .i64 x.cap, .int .i64 x.jit, .string ⟨x.init.toArray⟩] 42)).heap.size ((w.alloc (.cells #[.string ⟨x.name.toArray⟩, .int .i64 x.kind, .int .i64 x.lines, .int .i64 x.bytes, .int .i64 x.gens, .int .i64 x.size, .int .i64 x.base, .int .i64 x.cap, .int .i64 x.jit, .string ⟨x.init.toArray⟩] 42)).alloc (.cells #[.string ⟨x.name.toArray⟩, .int .i64 x.kind, .int .i64 x.lines, .int .i64 x.bytes, .int .i64 x.gens, .int .i64 x.size, .int .i64 x.base, .int .i64 x.cap, .int .i64 x.jit, .string ⟨x.init.toArray⟩] 42))).alloc (Nat.le_refl _) (.cells #[.slice (some ⟨w.heap.size + 1, 0, none⟩) 1 1, .slice none 0 0, .slice none 0 0, .slice none 0 0, .string ⟨#[]⟩, .string ⟨#[]⟩, .string ⟨#[]⟩, .string ⟨#[]⟩, .string ⟨#[]⟩, .string ⟨#[]⟩, .string ⟨#[]⟩, .string ⟨#[]⟩, .string ⟨#[]⟩, .string ⟨#[]⟩] 29)
  have NX1 := Lib.hid ((Y2.block _ (by rw [e2]; omega)).trans ((Y1.block _ (at_lt NX)).trans NX))
  have NS1 := Lib.hid ((Y2.block _ (at_lt NS)).trans NS)
  have NCF := Lib.hid NC
  have A2 := Lib.hid (A1.alloc (by rw [e2]; omega) (.cells #[.slice (some ⟨w.heap.size + 1, 0, none⟩) 1 1, .slice none 0 0, .slice none 0 0, .slice none 0 0, .string ⟨#[]⟩, .string ⟨#[]⟩, .string ⟨#[]⟩, .string ⟨#[]⟩, .string ⟨#[]⟩, .string ⟨#[]⟩, .string ⟨#[]⟩, .string ⟨#[]⟩, .string ⟨#[]⟩, .string ⟨#[]⟩] 29))
  clear e1 e2 NX NS NC A1 Y1 Y2
  go_enter Tryz.func5, Tryz.ntmps5
  have cc0 := (at_cell NCF.out 0 : _ = some (Value.slice (some ⟨w.heap.size + 1, 0, none⟩) 1 1))
  have HI := is_conf (lf1 x) _ _ _ _ [] [] [] [] [] [] [] [] [] [] (((w.alloc (.cells #[.string ⟨x.name.toArray⟩, .int .i64 x.kind, .int .i64 x.lines, .int .i64 x.bytes, .int .i64 x.gens, .int .i64 x.size, .int .i64 x.base, .int .i64 x.cap, .int .i64 x.jit, .string ⟨x.init.toArray⟩] 42)).alloc (.cells #[.string ⟨x.name.toArray⟩, .int .i64 x.kind, .int .i64 x.lines, .int .i64 x.bytes, .int .i64 x.gens, .int .i64 x.size, .int .i64 x.base, .int .i64 x.cap, .int .i64 x.jit, .string ⟨x.init.toArray⟩] 42)).alloc (.cells #[.slice (some ⟨w.heap.size + 1, 0, none⟩) 1 1, .slice none 0 0, .slice none 0 0, .slice none 0 0, .string ⟨#[]⟩, .string ⟨#[]⟩, .string ⟨#[]⟩, .string ⟨#[]⟩, .string ⟨#[]⟩, .string ⟨#[]⟩, .string ⟨#[]⟩, .string ⟨#[]⟩, .string ⟨#[]⟩, .string ⟨#[]⟩] 29)) (cfR_one (((w.alloc (.cells #[.string ⟨x.name.toArray⟩, .int .i64 x.kind, .int .i64 x.lines, .int .i64 x.bytes, .int .i64 x.gens, .int .i64 x.size, .int .i64 x.base, .int .i64 x.cap, .int .i64 x.jit, .string ⟨x.init.toArray⟩] 42)).alloc (.cells #[.string ⟨x.name.toArray⟩, .int .i64 x.kind, .int .i64 x.lines, .int .i64 x.bytes, .int .i64 x.gens, .int .i64 x.size, .int .i64 x.base, .int .i64 x.cap, .int .i64 x.jit, .string ⟨x.init.toArray⟩] 42)).alloc (.cells #[.slice (some ⟨w.heap.size + 1, 0, none⟩) 1 1, .slice none 0 0, .slice none 0 0, .slice none 0 0, .string ⟨#[]⟩, .string ⟨#[]⟩, .string ⟨#[]⟩, .string ⟨#[]⟩, .string ⟨#[]⟩, .string ⟨#[]⟩, .string ⟨#[]⟩, .string ⟨#[]⟩, .string ⟨#[]⟩, .string ⟨#[]⟩] 29)) x (w.heap.size + 1) NS1.out) rfl HSZ.out
  have HI := Lib.hid HI
  unfold confV at HI
  clear cc0
  go_wp2_with fail
  generalize hW1 : (((w.alloc (.cells #[.string ⟨x.name.toArray⟩, .int .i64 x.kind, .int .i64 x.lines, .int .i64 x.bytes, .int .i64 x.gens, .int .i64 x.size, .int .i64 x.base, .int .i64 x.cap, .int .i64 x.jit, .string ⟨x.init.toArray⟩] 42)).alloc (.cells #[.string ⟨x.name.toArray⟩, .int .i64 x.kind, .int .i64 x.lines, .int .i64 x.bytes, .int .i64 x.gens, .int .i64 x.size, .int .i64 x.base, .int .i64 x.cap, .int .i64 x.jit, .string ⟨x.init.toArray⟩] 42)).alloc (.cells #[.slice (some ⟨w.heap.size + 1, 0, none⟩) 1 1, .slice none 0 0, .slice none 0 0, .slice none 0 0, .string ⟨#[]⟩, .string ⟨#[]⟩, .string ⟨#[]⟩, .string ⟨#[]⟩, .string ⟨#[]⟩, .string ⟨#[]⟩, .string ⟨#[]⟩, .string ⟨#[]⟩, .string ⟨#[]⟩, .string ⟨#[]⟩] 29)) = W1 at *
  clear hW1
  refine HI.out.mono ?_
  rintro e w1 ⟨r, rfl, hr, hb1⟩
  have B1 := Lib.hid (A2.out.trans (hb1.mono A2.out.size))
  have X1 := Lib.hid hb1
  clear HI hb1
  cases r with
  | false =>
    clear hr
    have HW := Lib.hid (works_calls _ (HTab.out.below B1.out))
    go_wp2_with fail
    refine HW.out.mono ?_
    rintro e w2 ⟨rfl, hb⟩
    have B2 := Lib.hid (B1.out.trans (hb.mono B1.out.size))
    clear hb HW
    go_wp2_with fail
    go_ret
    exact ⟨rfl, B2.out⟩
  | true =>
  have HBK := Lib.hid (hr.1 rfl)
  have NX2 := (X1.out.block _ (at_lt NX1.out)).trans NX1.out
  have cx0 := (at_cell NX2 0 : _ = some (Value.string ⟨x.name.toArray⟩))
  clear hr NX2
  by_cases hz : x.name = sZz
  · have hzb : (x.name == [122, 122]) = true := by rw [hz]; rfl
    clear hz
    have HW := Lib.hid (works_calls _ (HTab.out.below B1.out))
    go_wp2_with fail
    refine HW.out.mono ?_
    rintro e w2 ⟨rfl, hb⟩
    have B2 := Lib.hid (B1.out.trans (hb.mono B1.out.size))
    clear hb HW
    go_wp2_with fail
    go_ret
    exact ⟨rfl, B2.out⟩
  have hzb : (x.name == [122, 122]) = false := by simpa [sZz] using hz
  have HZ := Lib.hid hz
  clear hz
  have NXW1 := Lib.hid ((X1.out.block _ (at_lt NX1.out)).trans NX1.out)
  have NCW1 := Lib.hid ((X1.out.block _ (at_lt NCF.out)).trans NCF.out)
  have NSW1 := Lib.hid ((X1.out.block _ (at_lt NS1.out)).trans NS1.out)
  obtain ⟨t, ht⟩ : ∃ t, printT (lf1 x) = some t := by
    cases hp : printT (lf1 x) with
    | some t => exact ⟨t, rfl⟩
    | none =>
      have := HBK.out
      rw [hp] at this
      cases this
  have HTT := Lib.hid ht
  have HTL := Lib.hid (show t.length ≤ 3000 by
    have := txt_len _ (nodes (lf1 x)) 0 t rfl (by omega) ht
    have := HWT.out
    omega)
  have HDL := Lib.hid (show (dec ((n + 1 : Nat) : Int)).length ≤ 20 from dec_le20 (by omega))
  have HBB : loadT t = .ok (lf1 x) := by have := HBK.out; rw [ht] at this; exact this
  have HOK := Lib.hid (loadT_good HBB).1
  have HLO := Lib.hid fun w' => (by
    have h := load_calls (t ++ lk1 ++ x.name ++ lk2 ++ dec ((n + 1 : Nat) : Int) ++ lk3) w'
    rw [show t ++ lk1 ++ x.name ++ lk2 ++ dec ((n + 1 : Nat) : Int) ++ lk3 = t ++ lkT x.name ((n + 1 : Nat) : Int) by unfold lkT; simp only [List.append_assoc], like_load (k := ((n + 1 : Nat) : Int)) (c := lf1 x) rfl HOK.out HTT.out HZ.out (by omega) (by
      unfold lkT
      rw [List.length_append, List.length_append, List.length_append, List.length_append, List.length_append]
      have := HTL.out; have := HDL.out; have := HNL.out
      show t.length + (18 + (x.name.length + (8 + (_ + 3)))) ≤ 65536
      omega)] at h
    rw [show t ++ lkT x.name ((n + 1 : Nat) : Int) = t ++ lk1 ++ x.name ++ lk2 ++ dec ((n + 1 : Nat) : Int) ++ lk3 by unfold lkT; simp only [List.append_assoc]] at h
    exact h : Calls Tryz.prog 7 #[.string ⟨(t ++ lk1 ++ x.name ++ lk2 ++ dec ((n + 1 : Nat) : Int) ++ lk3).toArray⟩] w' (LdPost w' (.ok (lf2 x ((n + 1 : Nat) : Int)))))
  have HPR := Lib.hid fun w' (hb : Below w1.heap.size w1 w') => (by
    have h := print_conf (lf1 x) _ _ _ _ [] [] [] [] [] [] [] [] [] [] w' ((cfR_one w1 x (w.heap.size + 1) NSW1.out).below hb) rfl HSZ.out
    rw [HTT.out] at h
    exact h : Calls Tryz.prog 8 #[.agg #[.slice (some ⟨w.heap.size + 1, 0, none⟩) 1 1, .slice none 0 0, .slice none 0 0, .slice none 0 0, .string ⟨#[]⟩, .string ⟨#[]⟩, .string ⟨#[]⟩, .string ⟨#[]⟩, .string ⟨#[]⟩, .string ⟨#[]⟩, .string ⟨#[]⟩, .string ⟨#[]⟩, .string ⟨#[]⟩, .string ⟨#[]⟩]] w' fun e w2 => e = .returned (.string ⟨t.toArray⟩) ∧ Below w'.heap.size w' w2)
  clear ht HBB
  go_wp2_with fail
  rw [show ((n : Int) + 1) = ((n + 1 : Nat) : Int) from rfl]
  refine Reg.wp_guarded4 (by kernel_rfl) [some 37, some 38, some 39, some 40, some 41, some 42, some 43, some 44, some 45, some 46, some 47, some 48, some 36, some 49, some 50, some 7, none, some 8] (LkSp x ((n + 1 : Nat) : Int) [(.agg #[.slice (some ⟨w.heap.size + 1, 0, none⟩) 1 1, .slice none 0 0, .slice none 0 0, .slice none 0 0, .string ⟨#[]⟩, .string ⟨#[]⟩, .string ⟨#[]⟩, .string ⟨#[]⟩, .string ⟨#[]⟩, .string ⟨#[]⟩, .string ⟨#[]⟩, .string ⟨#[]⟩, .string ⟨#[]⟩, .string ⟨#[]⟩]), .string ⟨t.toArray⟩, .string ⟨(t ++ lk1).toArray⟩, .pointer (some ⟨w.heap.size, 0, none⟩), .string ⟨x.name.toArray⟩, .string ⟨(t ++ lk1 ++ x.name).toArray⟩, .string ⟨(t ++ lk1 ++ x.name ++ lk2).toArray⟩, .int .i64 ((n + 1 : Nat) : Int), .string ⟨(dec ((n + 1 : Nat) : Int)).toArray⟩, .string ⟨(t ++ lk1 ++ x.name ++ lk2 ++ dec ((n + 1 : Nat) : Int)).toArray⟩, .string ⟨(t ++ lk1 ++ x.name ++ lk2 ++ dec ((n + 1 : Nat) : Int) ++ lk3).toArray⟩, undef, undef, undef, .nilIface, undef, undef, .nilIface]) (LkJ x ((n + 1 : Nat) : Int) w1) [(37, 0), (38, 1), (39, 2), (40, 3), (41, 4), (42, 5), (43, 6), (44, 7), (45, 8), (46, 9), (47, 10), (48, 11), (36, 12), (49, 13), (50, 14), (7, 15), (8, 17)] (by kernel_rfl) (by kernel_rfl) (by decide) (by kernel_rfl) ?_ ?_ ?_
  · exact lk_start _ _ _ _ _
  · intro i op listed a' w' ho hs
    have hot : ∀ t, ((List.range 18).all fun k => Reg.dsAt [some 37, some 38, some 39, some 40, some 41, some 42, some 43, some 44, some 45, some 46, some 47, some 48, some 36, some 49, some 50, some 7, none, some 8] k != some t) = true → ∀ k, k < 18 → listed.getD k false = true → Reg.dsAt [some 37, some 38, some 39, some 40, some 41, some 42, some 43, some 44, some 45, some 46, some 47, some 48, some 36, some 49, some 50, some 7, none, some 8] k ≠ some t := fun t h k hk _ => by
      simp only [List.all_eq_true, List.mem_range, bne_iff_ne] at h
      exact h k hk
    have t2 : a'.tmps[2]? = some (.pointer (some ⟨w.heap.size, 0, none⟩)) := (hs.other 2 (hot 2 (by kernel_rfl))).trans rfl
    have t5 : a'.tmps[5]? = some (.pointer (some ⟨w.heap.size + 1 + 1, 0, none⟩)) := (hs.other 5 (hot 5 (by kernel_rfl))).trans rfl
    have t5 : a'.tmps[5]? = some (.pointer (some ⟨w.heap.size + 2, 0, none⟩)) := by rw [t5]
    have t6 : a'.tmps[6]? = some (.int .i64 ((n + 1 : Nat) : Int)) := (hs.other 6 (hot 6 (by kernel_rfl))).trans rfl
    have NCW := (hs.inv.1.block _ (at_lt NCW1.out)).trans NCW1.out
    have NXW : w'.cell? ⟨w.heap.size, 0, none⟩ = some (.string ⟨x.name.toArray⟩) := at_cell ((hs.inv.1.block _ (at_lt NXW1.out)).trans NXW1.out) 0
    have htl := HTL.out
    have hdl := HDL.out
    have hnl := HNL.out
    match i, ho, hs with
    | 0, ho, hs =>
      obtain rfl := Option.some.inj ho
      refine only rfl ?_
      exact wp_ldConf 5 _ _ rfl _ _ _ _ _ _ _ _ _ _ _ _ _ _ rfl rfl t5 NCW (lk_simple (by decide) (by decide) (by decide) hs.inv (Below.refl _ _) rfl)
    | 1, ho, hs =>
      obtain rfl := Option.some.inj ho
      obtain ⟨_, h1, rfl⟩ := hs.dep 0 (Reg.mem_of (by kernel_rfl))
      refine only rfl ?_
      refine wp_cPrint 37 _ _ rfl (h1 _ rfl) ((HPR.out w' hs.inv.1).mono ?_)
      rintro e w2 ⟨rfl, hb⟩
      exact ⟨_, rfl, (lk_simple (by decide) (by decide) (by decide) hs.inv hb rfl)⟩
    | 2, ho, hs =>
      obtain rfl := Option.some.inj ho
      obtain ⟨_, h1, rfl⟩ := hs.dep 1 (Reg.mem_of (by kernel_rfl))
      refine only rfl ?_
      exact wp_addC 38 t lk1 rfl (h1 _ rfl) (by show t.length + 18 ≤ _; omega) (lk_simple (by decide) (by decide) (by decide) hs.inv (Below.refl _ _) rfl)
    | 3, ho, hs =>
      obtain rfl := Option.some.inj ho
      refine only rfl ?_
      exact wp_fa0 2 _ rfl t2 (lk_simple (by decide) (by decide) (by decide) hs.inv (Below.refl _ _) rfl)
    | 4, ho, hs =>
      obtain rfl := Option.some.inj ho
      obtain ⟨_, h1, rfl⟩ := hs.dep 3 (Reg.mem_of (by kernel_rfl))
      refine only rfl ?_
      exact wp_load_str 40 _ _ rfl (h1 _ rfl) NXW (lk_simple (by decide) (by decide) (by decide) hs.inv (Below.refl _ _) rfl)
    | 5, ho, hs =>
      obtain rfl := Option.some.inj ho
      obtain ⟨_, h1, rfl⟩ := hs.dep 2 (Reg.mem_of (by kernel_rfl))
      obtain ⟨_, h2, rfl⟩ := hs.dep 4 (Reg.mem_of (by kernel_rfl))
      refine only rfl ?_
      exact wp_addT 39 41 (t ++ lk1) x.name rfl (h1 _ rfl) (h2 _ rfl) (by rw [List.length_append]; show t.length + 18 + _ ≤ _; omega) (lk_simple (by decide) (by decide) (by decide) hs.inv (Below.refl _ _) rfl)
    | 6, ho, hs =>
      obtain rfl := Option.some.inj ho
      obtain ⟨_, h1, rfl⟩ := hs.dep 5 (Reg.mem_of (by kernel_rfl))
      refine only rfl ?_
      exact wp_addC 42 (t ++ lk1 ++ x.name) lk2 rfl (h1 _ rfl) (by rw [List.length_append, List.length_append]; show t.length + 18 + _ + 8 ≤ _; omega) (lk_simple (by decide) (by decide) (by decide) hs.inv (Below.refl _ _) rfl)
    | 7, ho, hs =>
      obtain rfl := Option.some.inj ho
      refine only rfl ?_
      exact wp_move 6 _ rfl t6 (lk_simple (by decide) (by decide) (by decide) hs.inv (Below.refl _ _) rfl)
    | 8, ho, hs =>
      obtain rfl := Option.some.inj ho
      obtain ⟨_, h1, rfl⟩ := hs.dep 7 (Reg.mem_of (by kernel_rfl))
      refine only rfl ?_
      refine wp_cDec 44 _ _ rfl (h1 _ rfl) ((decimal_calls (n + 1) (by omega) (by omega) w').mono ?_)
      rintro e w2 ⟨rfl, hb⟩
      exact ⟨_, rfl, (lk_simple (by decide) (by decide) (by decide) hs.inv hb rfl)⟩
    | 9, ho, hs =>
      obtain rfl := Option.some.inj ho
      obtain ⟨_, h1, rfl⟩ := hs.dep 6 (Reg.mem_of (by kernel_rfl))
      obtain ⟨_, h2, rfl⟩ := hs.dep 8 (Reg.mem_of (by kernel_rfl))
      refine only rfl ?_
      exact wp_addT 43 45 (t ++ lk1 ++ x.name ++ lk2) (dec ((n + 1 : Nat) : Int)) rfl (h1 _ rfl) (h2 _ rfl) (by rw [List.length_append, List.length_append, List.length_append]; show t.length + 18 + _ + 8 + _ ≤ _; omega) (lk_simple (by decide) (by decide) (by decide) hs.inv (Below.refl _ _) rfl)
    | 10, ho, hs =>
      obtain rfl := Option.some.inj ho
      obtain ⟨_, h1, rfl⟩ := hs.dep 9 (Reg.mem_of (by kernel_rfl))
      refine only rfl ?_
      exact wp_addC 46 (t ++ lk1 ++ x.name ++ lk2 ++ dec ((n + 1 : Nat) : Int)) lk3 rfl (h1 _ rfl) (by rw [List.length_append, List.length_append, List.length_append, List.length_append]; show t.length + 18 + _ + 8 + _ + 3 ≤ _; omega) (lk_simple (by decide) (by decide) (by decide) hs.inv (Below.refl _ _) rfl)
    | 11, ho, hs =>
      obtain rfl := Option.some.inj ho
      obtain ⟨_, h1, rfl⟩ := hs.dep 10 (Reg.mem_of (by kernel_rfl))
      refine only rfl ?_
      refine wp_cLoad 47 _ _ rfl (h1 _ rfl) ((HLO.out w').mono ?_)
      intro e w2 hp
      cases hp with
      | @ok _ _ v0 v1 v2 v3 b0 b1 b2 b3 b4 b5 b6 b7 b8 b9 hr ht hb =>
        have ht : [[], [], [], [], [], [], [], [], [], []] = [b0, b1, b2, b3, b4, b5, b6, b7, b8, b9] := ht
        cases ht
        have hc := hr
        obtain ⟨p0, k0, rfl, -⟩ := hr.cons
        obtain ⟨p1, k1, _, rfl, -, -⟩ := hr.grps
        obtain ⟨p2, k2, rfl, -⟩ := hr.usrs
        obtain ⟨p3, k3, rfl, -⟩ := hr.accs
        exact ⟨_, rfl, (lk_simple (by decide) (by decide) (by decide) hs.inv hb ⟨p0, p1, p2, p3, k0, k1, k2, k3, rfl, hc⟩)⟩
    | 12, ho, hs =>
      obtain rfl := Option.some.inj ho
      obtain ⟨_, h1, p0, p1, p2, p3, k0, k1, k2, k3, rfl, hc⟩ := hs.dep 11 (Reg.mem_of (by kernel_rfl))
      refine only rfl ?_
      exact wp_move 48 _ rfl (h1 _ rfl) (lk_simple (by decide) (by decide) (by decide) hs.inv (Below.refl _ _) ⟨p0, p1, p2, p3, k0, k1, k2, k3, rfl, hc⟩)
    | 13, ho, hs =>
      obtain rfl := Option.some.inj ho
      obtain ⟨_, h1, p0, p1, p2, p3, k0, k1, k2, k3, rfl, hc⟩ := hs.dep 12 (Reg.mem_of (by kernel_rfl))
      refine only rfl ?_
      exact wp_ext 36 0 _ _ rfl (h1 _ rfl) rfl (lk_simple (by decide) (by decide) (by decide) hs.inv (Below.refl _ _) ⟨p0, p1, p2, p3, k0, k1, k2, k3, rfl, hc⟩)
    | 14, ho, hs =>
      obtain rfl := Option.some.inj ho
      obtain ⟨_, h1, p0, p1, p2, p3, k0, k1, k2, k3, rfl, hc⟩ := hs.dep 12 (Reg.mem_of (by kernel_rfl))
      refine only rfl ?_
      exact wp_ext 36 1 _ _ rfl (h1 _ rfl) rfl (lk_simple (by decide) (by decide) (by decide) hs.inv (Below.refl _ _) rfl)
    | 15, ho, hs =>
      obtain rfl := Option.some.inj ho
      refine only rfl ?_
      have hun16 : listed.getD 16 false = false := by
        cases h16 : listed.getD 16 false with
        | false => rfl
        | true => exact absurd (hs.closed 16 (by decide) h16 15 (Reg.mem_of (by kernel_rfl))) (by rw [hs.un]; simp)
      refine wp_new rfl ⟨_, rfl, trivial, fun j u _ _ hj => lk_mono (fun _ _ _ _ hc => hc.below ((Below.refl _ _).alloc (Nat.le_refl _) _)) hj, hs.inv.1.trans (((Below.refl _ _).alloc (Nat.le_refl _) _).mono hs.inv.1.size), fun _ => ⟨w'.heap.size, Reg.put_at a' _ (by rw [hs.tsz]; show 7 < 80; decide), hs.inv.1.size, by simp, fun _ => at_new _ _, fun h3 => ?_⟩⟩
      rw [getD_set_ne false (by decide), hun16] at h3; cases h3
    | 16, ho, hs =>
      obtain rfl := Option.some.inj ho
      obtain ⟨_, h1, p0, p1, p2, p3, k0, k1, k2, k3, rfl, hc⟩ := hs.dep 13 (Reg.mem_of (by kernel_rfl))
      obtain ⟨_, hp15, -⟩ := hs.dep 15 (Reg.mem_of (by kernel_rfl))
      refine only rfl ?_
      have h15 : listed.getD 15 false = true := hs.lst 15 (Reg.mem_of (by kernel_rfl))
      obtain ⟨g, e7, hg⟩ := hs.inv.2 h15
      have hz := hg.new hs.un
      refine wp_store14 7 49 g p0 p1 p2 p3 k0 k1 k2 k3 rfl rfl e7 (h1 _ rfl) hz fun w2 N2 O2 => ?_
      refine ⟨undef, rfl, trivial, fun j u _ _ hj => lk_mono (fun _ _ _ _ hc => lf2_out hc hz O2) hj, hs.inv.1.trans (O2.below hs.inv.1.size fun i e => by have e : i = g := e; have := hg.low; omega), fun _ => ⟨g, e7, hg.low, Nat.lt_of_lt_of_le hg.lt O2.size, fun h3 => ?_, fun _ => ⟨p0, p1, p2, p3, k0, k1, k2, k3, N2, lf2_out hc hz O2⟩⟩⟩
      have hil : 16 < listed.size := by rw [hs.size]; decide
      simp [hil] at h3
    | 17, ho, hs =>
      obtain rfl := Option.some.inj ho
      obtain ⟨_, h1, rfl⟩ := hs.dep 14 (Reg.mem_of (by kernel_rfl))
      refine only rfl ?_
      exact wp_assign 50 _ rfl (h1 _ rfl) (lk_simple (by decide) (by decide) (by decide) hs.inv (Below.refl _ _) rfl)
    | i + 18, ho, _ => exact absurd ho (by simp)
  · intro listed vs w' hvl hvs hsp hal hJ
    obtain ⟨x0, x1, x2, x3, x4, x5, x6, x7, x8, x9, x10, x11, x12, x13, x14, x15, x16, rfl⟩ : ∃ x0 x1 x2 x3 x4 x5 x6 x7 x8 x9 x10 x11 x12 x13 x14 x15 x16, vs = [x0, x1, x2, x3, x4, x5, x6, x7, x8, x9, x10, x11, x12, x13, x14, x15, x16] := by
      clear hvs hJ hsp
      match vs, hvl with
      | [x0, x1, x2, x3, x4, x5, x6, x7, x8, x9, x10, x11, x12, x13, x14, x15, x16], _ => exact ⟨x0, x1, x2, x3, x4, x5, x6, x7, x8, x9, x10, x11, x12, x13, x14, x15, x16, rfl⟩
    have hx16 : x16 = .nilIface := (hvs 16 (8, 17) _ rfl rfl).1
    have h15s := (hvs 15 (7, 15) _ rfl rfl).2
    clear hvs
    obtain ⟨hBl, hJ2⟩ := hJ
    obtain ⟨g, e7, hg⟩ := hJ2 (hal 15 (by show 15 < 18; decide))
    have hx15 : x15 = .pointer (some ⟨g, 0, none⟩) := by
      have h := h15s.symm.trans e7
      exact Option.some.inj h
    obtain ⟨p0, p1, p2, p3, k0, k1, k2, k3, hgc, hcf⟩ := hg.old (hal 16 (by show 16 < 18; decide))
    subst hx15 hx16
    have BL := Lib.hid hBl
    have HGC := Lib.hid hgc
    have HCF := Lib.hid hcf
    clear hJ2 e7 hg hgc hcf hBl hsp hal hvl h15s
    simp only [List.map, List.zip, List.zipWith, Reg.puts, Act.put, List.setIfInBounds_toArray, List.set_cons_succ, List.set_cons_zero]
    have NXB := (BL.out.block _ (at_lt NXW1.out)).trans NXW1.out
    have cx0 := (at_cell NXB 0 : _ = some (Value.string ⟨x.name.toArray⟩))
    have cx1 := (at_cell NXB 1 : _ = some (Value.int .i64 x.kind))
    have cx2 := (at_cell NXB 2 : _ = some (Value.int .i64 x.lines))
    have cx3 := (at_cell NXB 3 : _ = some (Value.int .i64 x.bytes))
    have cx4 := (at_cell NXB 4 : _ = some (Value.int .i64 x.gens))
    have cx5 := (at_cell NXB 5 : _ = some (Value.int .i64 x.size))
    have cx6 := (at_cell NXB 6 : _ = some (Value.int .i64 x.base))
    have cx7 := (at_cell NXB 7 : _ = some (Value.int .i64 x.cap))
    have cx8 := (at_cell NXB 8 : _ = some (Value.int .i64 x.jit))
    have cx9 := (at_cell NXB 9 : _ = some (Value.string ⟨x.init.toArray⟩))
    clear NXB
    obtain ⟨_, _, hv, r0⟩ := HCF.out.cons
    injection hv with q5 q6 q7
    subst q5 q7
    clear q6
    obtain ⟨gc, oc, rfl, hgl, c1⟩ := rd_atC r0 rfl (i := 0) (by show 0 < 2; decide)
    obtain ⟨_, _, eg, -, c2⟩ := rd_atC r0 rfl (i := 1) (by show 1 < 2; decide)
    cases eg
    have CX : Hid (∀ j v, j < 10 → (cnv x)[j]? = some v → (w'.alloc (.cells #[.string ⟨#[122, 122]⟩, .int .i64 x.kind, .int .i64 ((n : Int) + 1), .int .i64 x.bytes, .int .i64 x.gens, .int .i64 x.size, .int .i64 x.base, .int .i64 x.cap, .int .i64 x.jit, .string ⟨x.init.toArray⟩] 42)).cell? ⟨gc, oc + 0 * 10 + j, none⟩ = some v) := Lib.hid fun j v hj hv => (((Below.refl w'.heap.size w').alloc (Nat.le_refl _) (.cells #[.string ⟨#[122, 122]⟩, .int .i64 x.kind, .int .i64 ((n : Int) + 1), .int .i64 x.bytes, .int .i64 x.gens, .int .i64 x.size, .int .i64 x.base, .int .i64 x.cap, .int .i64 x.jit, .string ⟨x.init.toArray⟩] 42)).cell (p := ⟨gc, oc + 0 * 10 + j, none⟩) hgl).trans (c1 j v hj hv)
    have CY : Hid (∀ j v, j < 10 → (cnv (likeY x ((n + 1 : Nat) : Int)))[j]? = some v → (w'.alloc (.cells #[.string ⟨#[122, 122]⟩, .int .i64 x.kind, .int .i64 ((n : Int) + 1), .int .i64 x.bytes, .int .i64 x.gens, .int .i64 x.size, .int .i64 x.base, .int .i64 x.cap, .int .i64 x.jit, .string ⟨x.init.toArray⟩] 42)).cell? ⟨gc, oc + 1 * 10 + j, none⟩ = some v) := Lib.hid fun j v hj hv => (((Below.refl w'.heap.size w').alloc (Nat.le_refl _) (.cells #[.string ⟨#[122, 122]⟩, .int .i64 x.kind, .int .i64 ((n : Int) + 1), .int .i64 x.bytes, .int .i64 x.gens, .int .i64 x.size, .int .i64 x.base, .int .i64 x.cap, .int .i64 x.jit, .string ⟨x.init.toArray⟩] 42)).cell (p := ⟨gc, oc + 1 * 10 + j, none⟩) hgl).trans (c2 j v hj hv)
    have HGL := Lib.hid (show gc < (w'.alloc (.cells #[.string ⟨#[122, 122]⟩, .int .i64 x.kind, .int .i64 ((n : Int) + 1), .int .i64 x.bytes, .int .i64 x.gens, .int .i64 x.size, .int .i64 x.base, .int .i64 x.cap, .int .i64 x.jit, .string ⟨x.init.toArray⟩] 42)).heap.size from Nat.lt_of_lt_of_le hgl (((Below.refl w'.heap.size w').alloc (Nat.le_refl _) (.cells #[.string ⟨#[122, 122]⟩, .int .i64 x.kind, .int .i64 ((n : Int) + 1), .int .i64 x.bytes, .int .i64 x.gens, .int .i64 x.size, .int .i64 x.base, .int .i64 x.cap, .int .i64 x.jit, .string ⟨x.init.toArray⟩] 42)).size))
    clear r0 c1 c2 hgl
    have cg0 := (at_cell HGC.out 0 : _ = some (Value.slice (some ⟨gc, oc, none⟩) 2 k0))
    go_wp2_with fail
    have A9 := (Below.refl w'.heap.size w').alloc (Nat.le_refl _) (.cells #[.string ⟨#[122, 122]⟩, .int .i64 x.kind, .int .i64 ((n : Int) + 1), .int .i64 x.bytes, .int .i64 x.gens, .int .i64 x.size, .int .i64 x.base, .int .i64 x.cap, .int .i64 x.jit, .string ⟨x.init.toArray⟩] 42)
    have NY := Lib.hid (at_new w' (.cells #[.string ⟨#[122, 122]⟩, .int .i64 x.kind, .int .i64 ((n : Int) + 1), .int .i64 x.bytes, .int .i64 x.gens, .int .i64 x.size, .int .i64 x.base, .int .i64 x.cap, .int .i64 x.jit, .string ⟨x.init.toArray⟩] 42))
    have NG := Lib.hid ((A9.block _ (at_lt HGC.out)).trans HGC.out)
    have NXB := Lib.hid ((A9.block _ (by have := at_lt NXW1.out; have := BL.out.size; omega)).trans ((BL.out.block _ (at_lt NXW1.out)).trans NXW1.out))
    have B9 := Lib.hid (B1.out.trans ((BL.out.trans (A9.mono BL.out.size)).mono B1.out.size))
    clear A9
    refine Reg.wp_valsG (by kernel_rfl) [some 63, some 64, some 65, some 66, some 67, some 68, some 69, some 70, some 71, some 72, some 73, some 74, some 75, some 76, some 77, some 78, some 79, some 4] [.pointer (some ⟨g, 0, none⟩), (.slice (some ⟨gc, oc, none⟩) 2 k0), .pointer (some ⟨gc, oc + 0 * 10, none⟩), cnV x, cnV x, .bool true, .bool true, .pointer (some ⟨g, 0, none⟩), (.slice (some ⟨gc, oc, none⟩) 2 k0), .pointer (some ⟨gc, oc + 1 * 10, none⟩), cnV (likeY x ((n + 1 : Nat) : Int)), cnV (likeY x ((n + 1 : Nat) : Int)), .bool true, .bool true, .bool true, .bool true, .bool true, .bool true] (List.replicate 18 true) [(63, 0), (64, 1), (65, 2), (66, 3), (67, 4), (68, 5), (69, 6), (70, 7), (71, 8), (72, 9), (73, 10), (74, 11), (75, 12), (76, 13), (77, 14), (78, 15), (79, 16), (4, 17)] (by kernel_rfl) (by kernel_rfl) (by kernel_rfl) (by decide) (by kernel_rfl) ?_ ?_
    · intro i op a' w2 ho hwd hdp hot hb
      have t7 : a'.tmps[7]? = some (.pointer (some ⟨g, 0, none⟩)) := (hot 7 (by decide)).trans rfl
      have t2 : a'.tmps[2]? = some (.pointer (some ⟨w.heap.size, 0, none⟩)) := (hot 2 (by decide)).trans rfl
      have t9 : a'.tmps[9]? = some (.pointer (some ⟨w'.heap.size, 0, none⟩)) := (hot 9 (by decide)).trans rfl
      have hr := Below.refl w2.heap.size w2
      have cG : w2.cell? ⟨g, 0, none⟩ = some (.slice (some ⟨gc, oc, none⟩) 2 k0) := at_cell ((hb.block _ (at_lt NG.out)).trans NG.out) 0
      have NX2 := (hb.block _ (at_lt NXB.out)).trans NXB.out
      have NY2 := (hb.block _ (at_lt NY.out)).trans NY.out
      have cX : ∀ j v, j < 10 → (cnv x)[j]? = some v → w2.cell? ⟨w.heap.size, 0 + j, none⟩ = some v := fun j v _ hj => by rw [Nat.zero_add, at_cell NX2, ← hj]; simp [cnv, str]
      have cY : ∀ j v, j < 10 → (cnv (likeY x ((n + 1 : Nat) : Int)))[j]? = some v → w2.cell? ⟨w'.heap.size, 0 + j, none⟩ = some v := fun j v _ hj => by rw [Nat.zero_add, at_cell NY2, ← hj]; simp [cnv, str, likeY, sZz]
      match i, ho, hwd, hdp with
      | 0, ho, hwd, hdp => obtain rfl := Option.some.inj ho; exact wp_fC 0 (by decide) 7 _ rfl t7 ⟨rfl, hr⟩
      | 1, ho, hwd, hdp => obtain rfl := Option.some.inj ho; exact wp_lslC 63 _ _ rfl (hdp 0 (Reg.mem_of (by kernel_rfl)) _ rfl) cG ⟨rfl, hr⟩
      | 2, ho, hwd, hdp => obtain rfl := Option.some.inj ho; exact wp_ixK 64 _ _ _ _ 0 rfl (hdp 1 (Reg.mem_of (by kernel_rfl)) _ rfl) (by decide) ⟨rfl, hr⟩
      | 3, ho, hwd, hdp => obtain rfl := Option.some.inj ho; exact wp_ldC 65 _ _ x rfl (hdp 2 (Reg.mem_of (by kernel_rfl)) _ rfl) (fun j v hj hv => (hb.cell (p := ⟨gc, oc + 0 * 10 + j, none⟩) HGL.out).trans (CX.out j v hj hv)) ⟨rfl, hr⟩
      | 4, ho, hwd, hdp => obtain rfl := Option.some.inj ho; exact wp_ldC 2 _ 0 x rfl t2 cX ⟨rfl, hr⟩
      | 5, ho, hwd, hdp => obtain rfl := Option.some.inj ho; exact wp_eqC 66 67 x rfl (hdp 3 (Reg.mem_of (by kernel_rfl)) _ rfl) (hdp 4 (Reg.mem_of (by kernel_rfl)) _ rfl) ⟨rfl, hr⟩
      | 6, ho, hwd, hdp => obtain rfl := Option.some.inj ho; exact wp_move 68 _ rfl (hdp 5 (Reg.mem_of (by kernel_rfl)) _ rfl) ⟨rfl, hr⟩
      | 7, ho, hwd, hdp => obtain rfl := Option.some.inj ho; exact wp_fC 0 (by decide) 7 _ rfl t7 ⟨rfl, hr⟩
      | 8, ho, hwd, hdp => obtain rfl := Option.some.inj ho; exact wp_lslC 70 _ _ rfl (hdp 7 (Reg.mem_of (by kernel_rfl)) _ rfl) cG ⟨rfl, hr⟩
      | 9, ho, hwd, hdp => obtain rfl := Option.some.inj ho; exact wp_ixK 71 _ _ _ _ 1 rfl (hdp 8 (Reg.mem_of (by kernel_rfl)) _ rfl) (by decide) ⟨rfl, hr⟩
      | 10, ho, hwd, hdp => obtain rfl := Option.some.inj ho; exact wp_ldC 72 _ _ (likeY x ((n + 1 : Nat) : Int)) rfl (hdp 9 (Reg.mem_of (by kernel_rfl)) _ rfl) (fun j v hj hv => (hb.cell (p := ⟨gc, oc + 1 * 10 + j, none⟩) HGL.out).trans (CY.out j v hj hv)) ⟨rfl, hr⟩
      | 11, ho, hwd, hdp => obtain rfl := Option.some.inj ho; exact wp_ldC 9 _ 0 (likeY x ((n + 1 : Nat) : Int)) rfl t9 cY ⟨rfl, hr⟩
      | 12, ho, hwd, hdp => obtain rfl := Option.some.inj ho; exact wp_eqC 73 74 (likeY x ((n + 1 : Nat) : Int)) rfl (hdp 10 (Reg.mem_of (by kernel_rfl)) _ rfl) (hdp 11 (Reg.mem_of (by kernel_rfl)) _ rfl) ⟨rfl, hr⟩
      | 13, ho, hwd, hdp => obtain rfl := Option.some.inj ho; exact wp_pickF 69 75 _ rfl (hdp 6 (Reg.mem_of (by kernel_rfl)) _ rfl) (hdp 12 (Reg.mem_of (by kernel_rfl)) _ rfl) ⟨rfl, hr⟩
      | 14, ho, hwd, hdp => obtain rfl := Option.some.inj ho; exact wp_move 76 _ rfl (hdp 13 (Reg.mem_of (by kernel_rfl)) _ rfl) ⟨rfl, hr⟩
      | 15, ho, hwd, hdp => obtain rfl := Option.some.inj ho; exact wp_cWorks _ rfl ((works_calls w2 (HTab.out.below (B9.out.trans (hb.mono B9.out.size)))).mono (by rintro e w3 ⟨rfl, hb3⟩; exact ⟨_, rfl, rfl, hb3⟩))
      | 16, ho, hwd, hdp => obtain rfl := Option.some.inj ho; exact wp_pickF 77 78 _ rfl (hdp 14 (Reg.mem_of (by kernel_rfl)) _ rfl) (hdp 15 (Reg.mem_of (by kernel_rfl)) _ rfl) ⟨rfl, hr⟩
      | 17, ho, hwd, hdp => obtain rfl := Option.some.inj ho; exact wp_assign 79 _ rfl (hdp 16 (Reg.mem_of (by kernel_rfl)) _ rfl) ⟨rfl, hr⟩
      | i + 18, ho, _, _ => exact absurd ho (by simp)
    · intro us w2 hul hus hb
      obtain ⟨z0, z1, z2, z3, z4, z5, z6, z7, z8, z9, z10, z11, z12, z13, z14, z15, z16, z17, rfl⟩ : ∃ z0 z1 z2 z3 z4 z5 z6 z7 z8 z9 z10 z11 z12 z13 z14 z15 z16 z17, us = [z0, z1, z2, z3, z4, z5, z6, z7, z8, z9, z10, z11, z12, z13, z14, z15, z16, z17] := by
        clear hus
        match us, hul with
        | [z0, z1, z2, z3, z4, z5, z6, z7, z8, z9, z10, z11, z12, z13, z14, z15, z16, z17], _ => exact ⟨z0, z1, z2, z3, z4, z5, z6, z7, z8, z9, z10, z11, z12, z13, z14, z15, z16, z17, rfl⟩
      have h17 : z17 = .bool true := hus 17 (4, 17) _ rfl rfl
      subst h17
      have B10 := Lib.hid (B9.out.trans (hb.mono B9.out.size))
      clear hus hb hul
      simp only [List.map, List.zip, List.zipWith, Reg.puts, Act.put, List.setIfInBounds_toArray, List.set_cons_succ, List.set_cons_zero]
      go_wp2_with fail
      go_ret
      exact ⟨rfl, B10.out⟩
end Go.Proofs.YtajfdachpdkbcaaGreatDoor.Conf
end

section
namespace Go.Proofs.YtajfdachpdkbcaaGreatDoor.Conf
open Go.RowKit Go.Proofs.YtajfdachpdkbcaaGreatDoor.Own

section
open Go.Joins Go.ChangeShapes Go.WideShapes Go.Deep
variable {H : Type} {enc : TypeId × Value → H} {w : World} {spare : Nat → Bool} {held : Bool}
set_option maxRecDepth 100000 in
theorem con_arg {v : Value} {d : DataW H} {p : List MemPlace} {base b0 : Nat} {r : Reach} (ho : Value.okWide Tryz.prog w r b0 42 v) (h : DataW.Trod enc Tryz.prog w base spare held 42 v d p) : ∃ x : Cn, v = cnV x ∧ Ints x := by
  obtain ⟨cs, rfl, hsz⟩ := okWide_struct Tryz.underlying42 ho
  have hs10 : cs.size = 10 := hsz.trans (by kernel_rfl)
  obtain ⟨l⟩ := cs
  match l, hs10, h with
  | [c0, c1, c2, c3, c4, c5, c6, c7, c8, c9], _, h =>
    obtain ⟨fuel, hf⟩ := h
    have hf' : DataW.trod enc Tryz.prog w base spare held fuel 42 ((List.range 10).map fun i => [c0, c1, c2, c3, c4, c5, c6, c7, c8, c9].getD i undef) = some (d, p) := hf
    obtain ⟨_, _, h0⟩ := leaf_field Tryz.underlying42 hf' 0 _ rfl 0 1 rfl (by kernel_rfl) (by omega)
    obtain ⟨_, _, h1⟩ := leaf_field Tryz.underlying42 hf' 1 _ rfl 1 1 rfl (by kernel_rfl) (by omega)
    obtain ⟨_, _, h2⟩ := leaf_field Tryz.underlying42 hf' 2 _ rfl 2 1 rfl (by kernel_rfl) (by omega)
    obtain ⟨_, _, h3⟩ := leaf_field Tryz.underlying42 hf' 3 _ rfl 3 1 rfl (by kernel_rfl) (by omega)
    obtain ⟨_, _, h4⟩ := leaf_field Tryz.underlying42 hf' 4 _ rfl 4 1 rfl (by kernel_rfl) (by omega)
    obtain ⟨_, _, h5⟩ := leaf_field Tryz.underlying42 hf' 5 _ rfl 5 1 rfl (by kernel_rfl) (by omega)
    obtain ⟨_, _, h6⟩ := leaf_field Tryz.underlying42 hf' 6 _ rfl 6 1 rfl (by kernel_rfl) (by omega)
    obtain ⟨_, _, h7⟩ := leaf_field Tryz.underlying42 hf' 7 _ rfl 7 1 rfl (by kernel_rfl) (by omega)
    obtain ⟨_, _, h8⟩ := leaf_field Tryz.underlying42 hf' 8 _ rfl 8 1 rfl (by kernel_rfl) (by omega)
    obtain ⟨_, _, h9⟩ := leaf_field Tryz.underlying42 hf' 9 _ rfl 9 1 rfl (by kernel_rfl) (by omega)
    obtain ⟨s0, e0, _⟩ := leaf_string Tryz.underlying9 h0
    obtain ⟨n1, e1, w1⟩ := leaf_int Tryz.underlying3 h1
    obtain ⟨n2, e2, w2⟩ := leaf_int Tryz.underlying3 h2
    obtain ⟨n3, e3, w3⟩ := leaf_int Tryz.underlying3 h3
    obtain ⟨n4, e4, w4⟩ := leaf_int Tryz.underlying3 h4
    obtain ⟨n5, e5, w5⟩ := leaf_int Tryz.underlying3 h5
    obtain ⟨n6, e6, w6⟩ := leaf_int Tryz.underlying3 h6
    obtain ⟨n7, e7, w7⟩ := leaf_int Tryz.underlying3 h7
    obtain ⟨n8, e8, w8⟩ := leaf_int Tryz.underlying3 h8
    obtain ⟨s9, e9, _⟩ := leaf_string Tryz.underlying9 h9
    have e0 : c0 = .string s0 := e0
    have e1 : c1 = .int .i64 n1 := e1
    have e2 : c2 = .int .i64 n2 := e2
    have e3 : c3 = .int .i64 n3 := e3
    have e4 : c4 = .int .i64 n4 := e4
    have e5 : c5 = .int .i64 n5 := e5
    have e6 : c6 = .int .i64 n6 := e6
    have e7 : c7 = .int .i64 n7 := e7
    have e8 : c8 = .int .i64 n8 := e8
    have e9 : c9 = .string s9 := e9
    subst e0 e1 e2 e3 e4 e5 e6 e7 e8 e9
    refine ⟨⟨s0.data.toList, n1, n2, n3, n4, n5, n6, n7, n8, s9.data.toList⟩, ?_, ⟨wf64 w1, wf64 w2, wf64 w3, wf64 w4, wf64 w5, wf64 w6, wf64 w7, wf64 w8⟩⟩
    simp [cnV]
end
end Go.Proofs.YtajfdachpdkbcaaGreatDoor.Conf
end


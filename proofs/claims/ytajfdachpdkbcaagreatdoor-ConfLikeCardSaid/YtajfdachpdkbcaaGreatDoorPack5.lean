/-
Layer 15 (conf): operations of settings, one by one.
Layer 15 (conf): plain Lean: what is loaded, printed, is loaded as the same.
Layer 15 (conf): a console like another one: what is read of the text.
Layer 15 (conf): how much a configuration's text may be.
Layer 15 (conf): a console's settings as statements.
Layer 12 (lex): pieces in memory.
-/
import Derived.Test.YtajfdachpdkbcaaGreatDoorPack4
section
namespace Go.Proofs.YtajfdachpdkbcaaGreatDoor.Conf
open Go.RowKit Go.Proofs.YtajfdachpdkbcaaGreatDoor.Own Go.Proofs.YtajfdachpdkbcaaGreatDoor.Rw Go.Proofs.YtajfdachpdkbcaaGreatDoor.Tree
open Go.Proofs.YtajfdachpdkbcaaGreatDoor.Digit (dec)

section
variable {o : Oper} {a : Act} {w : World} {K : Act → World → Prop} {Q : Exit → Act → World → Prop}
theorem wp_load_int (t : Nat) (ad : Addr) (v : Value) (ho : o.op = .load 3 (.tmp t)) (h1 : a.tmps[t]? = some (.pointer (some ad))) (hc : w.cell? ad = some v) (h : K (a.put o.dst v) w) : Oper.wp Tryz.prog o a w K Q := by
  obtain ⟨d, op, ty, ps, af, gd⟩ := o
  cases ho
  unfold Oper.wp
  simp [go_sem, h1, hc, Oper.upon]
  exact h
theorem wp_load_str (t : Nat) (ad : Addr) (v : Value) (ho : o.op = .load 9 (.tmp t)) (h1 : a.tmps[t]? = some (.pointer (some ad))) (hc : w.cell? ad = some v) (h : K (a.put o.dst v) w) : Oper.wp Tryz.prog o a w K Q := by
  obtain ⟨d, op, ty, ps, af, gd⟩ := o
  cases ho
  unfold Oper.wp
  simp [go_sem, h1, hc, Oper.upon]
  exact h
theorem wp_kinds (ts : Array TypeId) (ho : o.op = .call { callee := .value (.func 53), args := #[], argTypes := ts }) (h : Calls Tryz.prog 53 #[] w (fun e w2 => ∃ v, e = .returned v ∧ K (a.put o.dst v) w2)) : Oper.wp Tryz.prog o a w K Q := by
  obtain ⟨d, op, ty, ps, af, gd⟩ := o
  cases ho
  unfold Oper.wp
  simp [go_sem, Oper.upon]
  refine h.mono ?_
  rintro e w2 ⟨v, rfl, hk⟩
  exact hk
theorem wp_put (t : Nat) (v : Value) (ts : Array TypeId) (ho : o.op = .call { callee := .value (.func 23), args := #[.tmp t], argTypes := ts }) (h1 : a.tmps[t]? = some v) (h : Calls Tryz.prog 23 #[v] w (fun e w2 => ∃ v, e = .returned v ∧ K (a.put o.dst v) w2)) : Oper.wp Tryz.prog o a w K Q := by
  obtain ⟨d, op, ty, ps, af, gd⟩ := o
  cases ho
  unfold Oper.wp
  simp [go_sem, Oper.upon, h1]
  refine h.mono ?_
  rintro e w2 ⟨v, rfl, hk⟩
  exact hk
theorem wp_plain (t : Nat) (k v : Value) (ts : Array TypeId) (ho : o.op = .call { callee := .value (.func 22), args := #[.const k, .tmp t], argTypes := ts }) (h1 : a.tmps[t]? = some v) (h : Calls Tryz.prog 22 #[k, v] w (fun e w2 => ∃ v, e = .returned v ∧ K (a.put o.dst v) w2)) : Oper.wp Tryz.prog o a w K Q := by
  obtain ⟨d, op, ty, ps, af, gd⟩ := o
  cases ho
  unfold Oper.wp
  simp [go_sem, Oper.upon, h1]
  refine h.mono ?_
  rintro e w2 ⟨v, rfl, hk⟩
  exact hk
theorem wp_word (t u : Nat) (v z : Value) (ts : Array TypeId) (ho : o.op = .call { callee := .value (.func 25), args := #[.tmp t, .tmp u], argTypes := ts }) (h1 : a.tmps[t]? = some v) (h2 : a.tmps[u]? = some z) (h : Calls Tryz.prog 25 #[v, z] w (fun e w2 => ∃ v, e = .returned v ∧ K (a.put o.dst v) w2)) : Oper.wp Tryz.prog o a w K Q := by
  obtain ⟨d, op, ty, ps, af, gd⟩ := o
  cases ho
  unfold Oper.wp
  simp [go_sem, Oper.upon, h1, h2]
  refine h.mono ?_
  rintro e w2 ⟨v, rfl, hk⟩
  exact hk
theorem wp_fa (k : Nat) (hk : k < 10) (b : Nat) (ho : o.op = .fieldAddr 42 (.tmp 1) k) (h1 : a.tmps[1]? = some (.pointer (some ⟨b, 0, none⟩))) (h : K (a.put o.dst (.pointer (some ⟨b, k, none⟩))) w) : Oper.wp Tryz.prog o a w K Q := by
  obtain ⟨d, op, ty, ps, af, gd⟩ := o
  cases ho
  unfold Oper.wp
  match k, hk with
  | 0, _ => simp [go_sem, h1, Oper.upon]; exact h
  | 1, _ => simp [go_sem, h1, Oper.upon]; exact h
  | 2, _ => simp [go_sem, h1, Oper.upon]; exact h
  | 3, _ => simp [go_sem, h1, Oper.upon]; exact h
  | 4, _ => simp [go_sem, h1, Oper.upon]; exact h
  | 5, _ => simp [go_sem, h1, Oper.upon]; exact h
  | 6, _ => simp [go_sem, h1, Oper.upon]; exact h
  | 7, _ => simp [go_sem, h1, Oper.upon]; exact h
  | 8, _ => simp [go_sem, h1, Oper.upon]; exact h
  | 9, _ => simp [go_sem, h1, Oper.upon]; exact h
theorem wp_sub1 (t : Nat) (n : Int) (ho : o.op = .binOp .sub 3 (.tmp t) (.const (.int .i64 1)) 3) (h1 : a.tmps[t]? = some (.int .i64 n)) (h : K (a.put o.dst (.int .i64 (IntKind.i64.wrap (n - 1)))) w) : Oper.wp Tryz.prog o a w K Q := by
  obtain ⟨d, op, ty, ps, af, gd⟩ := o
  cases ho
  unfold Oper.wp
  simp [go_sem, h1, Oper.upon]
  exact h
theorem wp_row1 (t : Nat) (s : ByteArray) (ho : o.op = .buildSlice 55 1 #[(0, .tmp t)]) (h1 : a.tmps[t]? = some (.string s)) (h : K (a.put o.dst (.slice (some ⟨w.heap.size, 0, none⟩) 1 1)) (w.alloc (.cells #[.string s] 9))) : Oper.wp Tryz.prog o a w K Q := by
  obtain ⟨d, op, ty, ps, af, gd⟩ := o
  cases ho
  unfold Oper.wp
  simp [go_sem, h1, Oper.upon]
  exact h
theorem wp_row3 (t0 t1 t2 : Nat) (s0 s1 s2 : ByteArray) (ho : o.op = .buildSlice 55 3 #[(0, .tmp t0), (1, .tmp t1), (2, .tmp t2)]) (h0 : a.tmps[t0]? = some (.string s0)) (h1 : a.tmps[t1]? = some (.string s1)) (h2 : a.tmps[t2]? = some (.string s2))
    (h : K (a.put o.dst (.slice (some ⟨w.heap.size, 0, none⟩) 3 3)) (w.alloc (.cells #[.string s0, .string s1, .string s2] 9))) : Oper.wp Tryz.prog o a w K Q := by
  obtain ⟨d, op, ty, ps, af, gd⟩ := o
  cases ho
  unfold Oper.wp
  simp [go_sem, h0, h1, h2, Oper.upon]
  exact h
theorem wp_assign (t : Nat) (v : Value) (ho : o.op = .assign (.tmp t)) (h1 : a.tmps[t]? = some v) (h : K (a.put o.dst v) w) : Oper.wp Tryz.prog o a w K Q := by
  obtain ⟨d, op, ty, ps, af, gd⟩ := o
  cases ho
  unfold Oper.wp
  simp [go_sem, h1, Oper.upon]
  exact h
set_option maxHeartbeats 2000000 in
theorem wp_nodes (t0 t1 t2 t3 t4 t5 t6 : Nat) (k0 k1 k2 k3 k4 k5 k6 : ByteArray) (g : Nat → Addr) (n : Nat → Nat) (ho : o.op = .buildSlice 50 7 #[(0, .tmp t0), (1, .tmp t1), (2, .tmp t2), (3, .tmp t3), (4, .tmp t4), (5, .tmp t5), (6, .tmp t6)]) (h0 : a.tmps[t0]? = some (.agg #[.string k0, .slice (some (g 0)) (n 0) (n 0), .bool false, .slice none 0 0, .int .i64 0])) (h1 : a.tmps[t1]? = some (.agg #[.string k1, .slice (some (g 1)) (n 1) (n 1), .bool false, .slice none 0 0, .int .i64 0])) (h2 : a.tmps[t2]? = some (.agg #[.string k2, .slice (some (g 2)) (n 2) (n 2), .bool false, .slice none 0 0, .int .i64 0])) (h3 : a.tmps[t3]? = some (.agg #[.string k3, .slice (some (g 3)) (n 3) (n 3), .bool false, .slice none 0 0, .int .i64 0])) (h4 : a.tmps[t4]? = some (.agg #[.string k4, .slice (some (g 4)) (n 4) (n 4), .bool false, .slice none 0 0, .int .i64 0])) (h5 : a.tmps[t5]? = some (.agg #[.string k5, .slice (some (g 5)) (n 5) (n 5), .bool false, .slice none 0 0, .int .i64 0])) (h6 : a.tmps[t6]? = some (.agg #[.string k6, .slice (some (g 6)) (n 6) (n 6), .bool false, .slice none 0 0, .int .i64 0]))
    (h : K (a.put o.dst (.slice (some ⟨w.heap.size, 0, none⟩) 7 7)) (w.alloc (.cells #[.string k0, .slice (some (g 0)) (n 0) (n 0), .bool false, .slice none 0 0, .int .i64 0, .string k1, .slice (some (g 1)) (n 1) (n 1), .bool false, .slice none 0 0, .int .i64 0, .string k2, .slice (some (g 2)) (n 2) (n 2), .bool false, .slice none 0 0, .int .i64 0, .string k3, .slice (some (g 3)) (n 3) (n 3), .bool false, .slice none 0 0, .int .i64 0, .string k4, .slice (some (g 4)) (n 4) (n 4), .bool false, .slice none 0 0, .int .i64 0, .string k5, .slice (some (g 5)) (n 5) (n 5), .bool false, .slice none 0 0, .int .i64 0, .string k6, .slice (some (g 6)) (n 6) (n 6), .bool false, .slice none 0 0, .int .i64 0] 57))) : Oper.wp Tryz.prog o a w K Q := by
  obtain ⟨d, op, ty, ps, af, gd⟩ := o
  cases ho
  unfold Oper.wp
  simp [go_sem, Oper.upon, h0, h1, h2, h3, h4, h5, h6]
  exact h
end
end Go.Proofs.YtajfdachpdkbcaaGreatDoor.Conf
end

section
namespace Go.Proofs.YtajfdachpdkbcaaGreatDoor.Conf
open Go.RowKit Go.Proofs.YtajfdachpdkbcaaGreatDoor.Lex Go.Proofs.YtajfdachpdkbcaaGreatDoor.Tree Go.Proofs.YtajfdachpdkbcaaGreatDoor.Digit Go.Proofs.YtajfdachpdkbcaaGreatDoor.Word
open Go.Proofs.YtajfdachpdkbcaaGreatDoor.Brk (rC)

theorem rd_dec {n : Int} (h0 : 0 ≤ n) (h1 : n ≤ 1099511627776) : rdV (dec n) = n ∧ rdC (dec n) = 0 := rd_some ⟨h0, h1, rfl⟩
theorem num_dec (x y : Cn) {n lo hi : Int} (h0 : 0 ≤ n) (h1 : n ≤ 1099511627776) (hl : lo ≤ n) (hh : n ≤ hi) : numM x (dec n) lo hi y = (0, y) := by
  obtain ⟨e1, e2⟩ := rd_dec h0 h1
  unfold numM
  rw [e1, e2, if_neg (by simp), if_pos ⟨hl, hh⟩]
/-- a console's settings, told one by one, are its own -/
theorem set_back {x : Cn} (h : OkN x) (cs : List Cn) (u : Cn) (hu : u.name = x.name) : setsM cs u (setNs x) = .ok x := by
  have e1 : setM cs u sKind [kindW x.kind] false = (0, { u with kind := x.kind }) := by
    rcases h.kind with e | e
    · rw [e]; rfl
    · rw [e]; rfl
  have q := h
  obtain ⟨_, hl, hb, hg, hz, hba, hc, hj, hi⟩ := q
  have e2 : ∀ u : Cn, setM cs u sLines [dec x.lines] false = (0, { u with lines := x.lines }) := fun u => by
    show numM u (dec x.lines) 1 1024 { u with lines := rdV (dec x.lines) } = _
    rw [num_dec _ _ (by omega) (by omega) (by omega) (by omega), (rd_dec (by omega) (by omega)).1]
  have e3 : ∀ u : Cn, setM cs u sBytes [dec x.bytes] false = (0, { u with bytes := x.bytes }) := fun u => by
    show numM u (dec x.bytes) 1 65536 { u with bytes := rdV (dec x.bytes) } = _
    rw [num_dec _ _ (by omega) (by omega) (by omega) (by omega), (rd_dec (by omega) (by omega)).1]
  have e4 : ∀ u : Cn, setM cs u sGens [dec x.gens] false = (0, { u with gens := x.gens }) := fun u => by
    show numM u (dec x.gens) 1 16 { u with gens := rdV (dec x.gens) } = _
    rw [num_dec _ _ (by omega) (by omega) (by omega) (by omega), (rd_dec (by omega) (by omega)).1]
  have e5 : ∀ u : Cn, setM cs u sSize [dec x.size] false = (0, { u with size := x.size }) := fun u => by
    show numM u (dec x.size) 64 1048576 { u with size := rdV (dec x.size) } = _
    rw [num_dec _ _ (by omega) (by omega) (by omega) (by omega), (rd_dec (by omega) (by omega)).1]
  have e6 : ∀ u : Cn, setM cs u sRetry [dec x.base, dec x.cap, dec x.jit] false = (0, { u with base := x.base, cap := x.cap, jit := x.jit }) := fun u => by
    show retryM u [dec x.base, dec x.cap, dec x.jit] = _
    obtain ⟨a1, a2⟩ := rd_dec (n := x.base) (by omega) (by omega)
    obtain ⟨b1, b2⟩ := rd_dec (n := x.cap) (by omega) (by omega)
    obtain ⟨c1, c2⟩ := rd_dec (n := x.jit) (by omega) (by omega)
    rw [retryM, a1, a2, b1, b2, c1, c2, if_neg (by simp), if_pos ⟨hba, hc, hj⟩]
  have e7 : ∀ u : Cn, setM cs u sInit [x.init] false = (0, { u with init := x.init }) := fun u => by
    show initM u x.init = _
    rw [initM, if_pos hi]
  unfold setNs
  unfold flat1
  simp only [setsM, Nd.key, Nd.args, Nd.block, e1, e2, e3, e4, e5, e6, e7, if_true]
  obtain ⟨un, _, _, _, _, _, _, _, _, _⟩ := u
  obtain ⟨xn, _, _, _, _, _, _, _, _, _⟩ := x
  obtain rfl : un = xn := hu
  rfl
theorem con_ok {s : Sa} {n : Nd} {nm : Bs} {x : Cn} (h : n.args = [nm]) (hb : n.block = true) (hc : callM (takenC s.cf nm) s.cf.cons.length nm = 0) (hs : setsM s.cf.cons { s.us with name := nm } n.list = .ok x) (hk : n.key = sConsole) :
    stepM s n = .ok ⟨{ s.cf with cons := s.cf.cons ++ [x] }, s.us⟩ := by
  unfold stepM
  rw [if_pos hk]
  unfold conM
  rw [h, hb]
  dsimp only
  rw [if_neg (by simp), if_neg (by simp [hc]), hs]
theorem plain_step {s : Sa} {n : Nd} {c : Cf} (h1 : n.key ≠ sConsole) (h2 : n.key ≠ sDefault) (h : plainM s.cf n.key n.args n.block = (0, c)) : stepM s n = .ok ⟨c, s.us⟩ := by
  unfold stepM
  rw [if_neg h1, if_neg h2, h, if_pos rfl]
theorem fold_cons (us : Cn) (c : Cf) : ∀ (R : List Cn), (∀ x ∈ R, isName x.name = true ∧ OkN x) → ((c.cons ++ R).map (·.name)).Nodup → (c.cons ++ R).length ≤ 4096 →
    foldM ⟨c, us⟩ (R.map conN) = .ok ⟨{ c with cons := c.cons ++ R }, us⟩
  | [], _, _, _ => by rw [List.map_nil, fold_nil, List.append_nil]
  | x :: R, h, hd, hl => by
    have hx := h x (by simp)
    have ht : takenC c x.name = false := by
      rw [takenC, List.any_eq_false]
      intro y hy e
      rw [List.map_append, List.nodup_append] at hd
      exact hd.2.2 y.name (List.mem_map_of_mem hy) x.name (by simp) (by simpa using e)
    have hc := call_yes (a := x.name) hx.1 ht (k := c.cons.length) (by simp at hl; omega)
    have hs := set_back hx.2 c.cons { us with name := x.name } rfl
    have e : stepM ⟨c, us⟩ (conN x) = .ok ⟨{ c with cons := c.cons ++ [x] }, us⟩ := by
      exact con_ok (s := ⟨c, us⟩) (n := conN x) rfl rfl hc hs rfl
    rw [List.map_cons, fold_ok e]
    have := fold_cons us { c with cons := c.cons ++ [x] } R (fun y hy => h y (by simp [hy])) (by simpa using hd) (by simpa using hl)
    rw [this]; simp
theorem fold_grps (us : Cn) (c : Cf) : ∀ (R : List (Bs × List Bs)), (∀ g ∈ R, isName g.1 = true ∧ g.2 ≠ [] ∧ g.2.all isPat = true) → ((c.grps ++ R).map (·.1)).Nodup → (c.grps ++ R).length ≤ 4096 →
    foldM ⟨c, us⟩ (R.map grpN) = .ok ⟨{ c with grps := c.grps ++ R }, us⟩
  | [], _, _, _ => by rw [List.map_nil, fold_nil, List.append_nil]
  | x :: R, h, hd, hl => by
    obtain ⟨nm, ps⟩ := x
    obtain ⟨h1, h2, h3⟩ := h (nm, ps) (by simp)
    have ht : takenG c nm = false := by
      rw [takenG, List.any_eq_false]
      intro y hy e
      rw [List.map_append, List.nodup_append] at hd
      exact hd.2.2 y.1 (List.mem_map_of_mem hy) nm (by simp) (by simpa using e)
    have hc := call_yes (a := nm) h1 ht (k := c.grps.length) (by simp at hl; omega)
    obtain ⟨p, ps, rfl⟩ : ∃ p r, ps = p :: r := List.exists_cons_of_ne_nil h2
    have e : stepM ⟨c, us⟩ (grpN (nm, p :: ps)) = .ok ⟨{ c with grps := c.grps ++ [(nm, p :: ps)] }, us⟩ := by
      have : plainM c sGroup (nm :: p :: ps) false = (0, { c with grps := c.grps ++ [(nm, p :: ps)] }) := by
        show groupM c (nm :: p :: ps) = _
        dsimp only at h3
        rw [groupM, if_neg (by rw [h3]; decide), if_pos hc]
      exact plain_step (s := ⟨c, us⟩) (n := grpN (nm, p :: ps)) (show sGroup ≠ sConsole by decide) (show sGroup ≠ sDefault by decide) this
    rw [List.map_cons, fold_ok e]
    have := fold_grps us { c with grps := c.grps ++ [(nm, p :: ps)] } R (fun y hy => h y (by simp [hy])) (by simpa using hd) (by simpa using hl)
    rw [this]; simp
theorem fold_usrs (us : Cn) (c : Cf) : ∀ (R : List (Bs × Bs)), (∀ g ∈ R, isName g.1 = true ∧ isW g.2 = true ∧ g.2.length ≤ 32) → ((c.usrs ++ R).map (·.1)).Nodup → (c.usrs ++ R).length ≤ 4096 →
    foldM ⟨c, us⟩ (R.map usrN) = .ok ⟨{ c with usrs := c.usrs ++ R }, us⟩
  | [], _, _, _ => by rw [List.map_nil, fold_nil, List.append_nil]
  | x :: R, h, hd, hl => by
    obtain ⟨nm, pw⟩ := x
    obtain ⟨h1, h2, h3⟩ := h (nm, pw) (by simp)
    have ht : takenU c nm = false := by
      rw [takenU, List.any_eq_false]
      intro y hy e
      rw [List.map_append, List.nodup_append] at hd
      exact hd.2.2 y.1 (List.mem_map_of_mem hy) nm (by simp) (by simpa using e)
    have hc := call_yes (a := nm) h1 ht (k := c.usrs.length) (by simp at hl; omega)
    have e : stepM ⟨c, us⟩ (usrN (nm, pw)) = .ok ⟨{ c with usrs := c.usrs ++ [(nm, pw)] }, us⟩ := by
      have : plainM c sUser [nm, pw] false = (0, { c with usrs := c.usrs ++ [(nm, pw)] }) := by
        show userM c [nm, pw] = _
        dsimp only at h2 h3
        rw [userM, if_neg (by simp [h2]; omega), if_pos hc]
      exact plain_step (s := ⟨c, us⟩) (n := usrN (nm, pw)) (show sUser ≠ sConsole by decide) (show sUser ≠ sDefault by decide) this
    rw [List.map_cons, fold_ok e]
    have := fold_usrs us { c with usrs := c.usrs ++ [(nm, pw)] } R (fun y hy => h y (by simp [hy])) (by simpa using hd) (by simpa using hl)
    rw [this]; simp
theorem lvl_back {k : Int} (h0 : 0 ≤ k) (h3 : k ≤ 3) : lvl (lvlW k) = k := by
  rcases (show k = 0 ∨ k = 1 ∨ k = 2 ∨ k = 3 by omega) with rfl | rfl | rfl | rfl <;> rfl
theorem fold_accs (us : Cn) (c : Cf) : ∀ (R : List (Bs × Bs × Int)), (∀ a ∈ R, isPat a.1 = true ∧ isPat a.2.1 = true ∧ 0 ≤ a.2.2 ∧ a.2.2 ≤ 3) → (c.accs ++ R).length ≤ 4096 →
    foldM ⟨c, us⟩ (R.map accN) = .ok ⟨{ c with accs := c.accs ++ R }, us⟩
  | [], _, _ => by rw [List.map_nil, fold_nil, List.append_nil]
  | x :: R, h, hl => by
    obtain ⟨a, b, k⟩ := x
    obtain ⟨h1, h2, h3, h4⟩ := h (a, b, k) (by simp)
    have e : stepM ⟨c, us⟩ (accN (a, b, k)) = .ok ⟨{ c with accs := c.accs ++ [(a, b, k)] }, us⟩ := by
      have hk := lvl_back h3 h4
      have : plainM c sAccess [a, b, lvlW k] false = (0, { c with accs := c.accs ++ [(a, b, k)] }) := by
        show accM c [a, b, lvlW k] = _
        dsimp only at h1 h2 h3 hk
        rw [accM, hk, if_neg (by simp [h1, h2]), if_neg (by omega), if_neg (by simp at hl; omega)]
      exact plain_step (s := ⟨c, us⟩) (n := accN (a, b, k)) (show sAccess ≠ sConsole by decide) (show sAccess ≠ sDefault by decide) this
    rw [List.map_cons, fold_ok e]
    have := fold_accs us { c with accs := c.accs ++ [(a, b, k)] } R (fun y hy => h y (by simp [hy])) (by simpa using hl)
    rw [this]; simp
theorem fold_brks (us : Cn) (c : Cf) : ∀ (R pre : List Bs), (∀ t ∈ R, t ≠ [] → rC t = 0) → (pre.length = 0 → ∀ t, R[0]? = some t → t = []) → pre.length + R.length = 10 →
    foldM ⟨{ c with brks := pre ++ List.replicate R.length [] }, us⟩ (brkNs pre.length R) = .ok ⟨{ c with brks := pre ++ R }, us⟩
  | [], pre, _, _, _ => by rw [brkNs, fold_nil]; rfl
  | t :: R, pre, h, h0, hl => by
    rw [List.length_cons] at hl
    have e1 : pre ++ List.replicate (t :: R).length [] = pre ++ [([] : Bs)] ++ List.replicate R.length [] := by
      rw [List.length_cons, List.replicate_succ]; simp
    have ih := fun (u : Bs) => fold_brks us c R (pre ++ [u]) (fun y hy => h y (by simp [hy])) (by simp) (by simp; omega)
    simp only [List.length_append, List.length_singleton] at ih
    rw [brkNs]
    by_cases ht : t = []
    · rw [if_pos ht, e1, ih, ht]; simp
    · rw [if_neg ht]
      have hp : 1 ≤ pre.length := by
        rcases Nat.eq_zero_or_pos pre.length with e | e
        · exact absurd (h0 e t rfl) ht
        · exact e
      obtain ⟨a1, a2⟩ := rd_dec (n := (pre.length : Int)) (by omega) (by omega)
      have hg : (pre ++ List.replicate (t :: R).length ([] : Bs))[pre.length]?.getD [] = [] := by
        rw [e1]; simp
      have hset : (pre ++ List.replicate (t :: R).length ([] : Bs)).set pre.length t = pre ++ [t] ++ List.replicate R.length [] := by
        rw [List.length_cons, List.replicate_succ, List.set_append_right _ _ (Nat.le_refl _)]; simp
      have e : stepM ⟨{ c with brks := pre ++ List.replicate (t :: R).length [] }, us⟩ (flat1 sBreak [dec pre.length, t]) = .ok ⟨{ c with brks := pre ++ [t] ++ List.replicate R.length [] }, us⟩ := by
        have : plainM { c with brks := pre ++ List.replicate (t :: R).length [] } sBreak [dec pre.length, t] false = (0, { c with brks := pre ++ [t] ++ List.replicate R.length [] }) := by
          show brkM _ [dec pre.length, t] = _
          rw [brkM, a1, a2, if_neg (by simp), if_neg (by omega), if_neg (by simp [h t (by simp) ht]), if_neg ht, show ((pre.length : Int)).toNat = pre.length by omega]
          dsimp only
          rw [if_neg (by rw [hg]; simp), hset]
        exact plain_step (s := ⟨{ c with brks := pre ++ List.replicate (t :: R).length [] }, us⟩) (n := flat1 sBreak [dec pre.length, t]) (show sBreak ≠ sConsole by decide) (show sBreak ≠ sDefault by decide) this
      rw [fold_ok e, ih]; simp
/-- what may be is loaded from its statements -/
theorem fold_back {c : Cf} (h : OkC c) (us : Cn) : foldM ⟨empty, us⟩ (nodes c) = .ok ⟨c, us⟩ := by
  unfold nodes
  have e1 : foldM ⟨empty, us⟩ (brkNs 0 c.brks) = .ok ⟨{ empty with brks := c.brks }, us⟩ := by
    have := fold_brks us empty c.brks [] h.brks (fun _ t ht => by rw [h.brks0] at ht; cases ht; rfl) (by simpa using h.brksL)
    rw [h.brksL] at this
    exact this
  rw [fold_app _ _ _ _ e1]
  have e2 := fold_cons us { empty with brks := c.brks } c.cons h.cons (by simpa [empty] using h.consD) (by simpa [empty] using h.consL)
  rw [fold_app _ _ _ _ e2]
  have e3 := fold_grps us { empty with brks := c.brks, cons := c.cons } c.grps (fun g hg => ⟨(h.grps g hg).1, (h.grps g hg).2.1, (h.grps g hg).2.2.1⟩) (by simpa [empty] using h.grpsD) (by simpa [empty] using h.grpsL)
  have e4 := fold_usrs us { empty with brks := c.brks, cons := c.cons, grps := c.grps } c.usrs h.usrs (by simpa [empty] using h.usrsD) (by simpa [empty] using h.usrsL)
  have e5 := fold_accs us { empty with brks := c.brks, cons := c.cons, grps := c.grps, usrs := c.usrs } c.accs h.accs (by simpa [empty] using h.accsL)
  simp only [empty, List.nil_append] at e2 e3 e4 e5 ⊢
  rw [fold_app _ _ _ _ e3, fold_app _ _ _ _ e4, e5]
theorem load_back {c : Cf} (h : OkC c) : loadL (nodes c) = .ok c := by
  unfold loadL
  rw [fold_back h]

/-! ### it has a text -/
theorem allq_all {l : Bs} (h : ∀ c ∈ l, qb c.toNat = true) : allq l = true := List.all_eq_true.2 h
theorem argC_q {a : Bs} (h : allq a = true) : argC a = 0 := by
  unfold argC argK
  split
  · exact ((ptC_word a).1 (by assumption)).1
  · exact ((ptC_quote a).1 h).1
theorem q_isW {a : Bs} (h : isW a = true) : allq a = true := allq_all fun c hc => wb_qb ((isW_all h).2 c hc)
theorem q_isPat {a : Bs} (h : isPat a = true) : allq a = true := by
  simp only [isPat, Bool.and_eq_true] at h
  refine allq_all fun c hc => ?_
  have := List.all_eq_true.1 h.2 c hc
  rw [qb_iff]
  simp only [pat, inn, ltr, Bool.or_eq_true, decide_eq_true_eq] at this
  omega
theorem pat_len {a : Bs} (h : isPat a = true) : 1 ≤ a.length ∧ a.length ≤ 32 := by
  simp only [isPat, Bool.and_eq_true, Word.sized, decide_eq_true_eq] at h
  exact h.1
theorem q_dec {n : Int} : allq (dec n) = true := by
  refine allq_all fun c hc => ?_
  rw [qb_iff]
  unfold dec at hc
  split at hc
  · rcases List.mem_cons.1 hc with rfl | hc
    · decide
    · have := decN_digit _ c hc; omega
  · have := decN_digit _ c hc; omega
theorem hexd_q {n : Nat} (h : n < 16) : qb (hexd n).toNat = true := by
  rw [qb_iff]
  rcases (show n = 0 ∨ n = 1 ∨ n = 2 ∨ n = 3 ∨ n = 4 ∨ n = 5 ∨ n = 6 ∨ n = 7 ∨ n = 8 ∨ n = 9 ∨ n = 10 ∨ n = 11 ∨ n = 12 ∨ n = 13 ∨ n = 14 ∨ n = 15 by omega) with rfl | rfl | rfl | rfl | rfl | rfl | rfl | rfl | rfl | rfl | rfl | rfl | rfl | rfl | rfl | rfl <;> decide
theorem q_two {n : Nat} (h : n ≤ 99) : allq (Brk.two n) = true := by
  refine allq_all fun c hc => ?_
  simp only [Brk.two, List.mem_cons, List.not_mem_nil, or_false] at hc
  rcases hc with rfl | rfl <;> exact hexd_q (by omega)
theorem q_hexS {n : Nat} (h : n < 256) : allq (hexS n) = true := by
  refine allq_all fun c hc => ?_
  simp only [hexS, List.mem_cons, List.not_mem_nil, or_false] at hc
  rcases hc with rfl | rfl <;> exact hexd_q (by omega)
theorem q_step {l : Bs} (h : (Brk.one l).2 ≠ 0) : allq (l.take (Brk.one l).2) = true := by
  cases l with
  | nil => exact absurd rfl h
  | cons c t =>
    cases t with
    | nil =>
      by_cases hc : 32 ≤ c.toNat ∧ c.toNat ≤ 126 ∧ c ≠ 92
      · simp only [Brk.one, if_pos hc]
        rw [List.take_succ_cons, allq_cons, (qb_iff _).2 ⟨hc.1, hc.2.1⟩]; rfl
      · exact absurd (by simp only [Brk.one, if_neg hc]; rfl) h
    | cons d r =>
      by_cases hc : c = 92
      · subst hc
        rw [Brk.one_esc] at h ⊢
        have h92 : qb (92 : UInt8).toNat = true := by decide
        unfold Brk.esc at h ⊢
        split
        · rename_i e; subst e; rfl
        split
        · rename_i e; subst e; rfl
        split
        · rename_i e; subst e; rfl
        split
        · rename_i e; subst e; rfl
        split
        · rename_i e; subst e; rfl
        split
        · rename_i e; subst e; rfl
        rename_i n1 n2 n3 n4 n5 n6
        rw [if_neg n1, if_neg n2, if_neg n3, if_neg n4, if_neg n5, if_neg n6] at h
        split
        · rename_i e
          rw [if_pos e] at h
          split
          · rename_i e2
            subst e
            obtain ⟨c, hc, hs, _⟩ := Brk.rh_is e2
            show allq (92 :: 120 :: r.take 2) = true
            rw [allq_cons, allq_cons, ← hs, q_hexS hc]; rfl
          · rename_i e2; rw [if_neg e2] at h; exact absurd rfl h
        · rename_i e
          rw [if_neg e] at h
          split
          · rename_i e2
            subst e2
            rw [if_pos rfl] at h
            split
            · rename_i e3; rw [if_pos e3] at h; exact absurd rfl h
            · rename_i e3
              obtain ⟨k1, k2, k3⟩ := Brk.tk_is e3
              show allq (92 :: 119 :: r.take 2) = true
              rw [allq_cons, allq_cons, ← k3, q_two k2]; rfl
          · rename_i e2; rw [if_neg e2] at h; exact absurd rfl h
      · by_cases hq : 32 ≤ c.toNat ∧ c.toNat ≤ 126
        · simp only [Brk.one, if_neg hc, if_pos hq]
          rw [List.take_succ_cons, allq_cons, (qb_iff _).2 hq]; rfl
        · exact absurd (by simp only [Brk.one, if_neg hc, if_neg hq]; rfl) h
theorem q_rdF : ∀ (k : Nat) (l : Bs) (acc r : List Brk.Op), l.length = k → Brk.rdF acc l = some r → allq l = true := by
  intro k
  induction k using Nat.strongRecOn with
  | ind k ih =>
  intro l acc r hk h
  by_cases h0 : (Brk.one l).2 = 0
  · cases l with
    | nil => rfl
    | cons c t => rw [Brk.rdF_no (by simp) h0] at h; cases h
  · obtain ⟨_, h1, h2⟩ := Brk.one_yes h0
    rw [Brk.rdF_yes h0] at h
    have := ih (l.length - (Brk.one l).2) (by omega) _ _ _ (by rw [List.length_drop]) h
    have e := List.take_append_drop (Brk.one l).2 l
    rw [← e]
    unfold allq at this ⊢
    rw [List.all_append, this]
    have := q_step h0
    unfold allq at this
    rw [this]; rfl
theorem q_rC {l : Bs} (h : rC l = 0) : allq l = true ∧ l.length ≤ 255 := by
  by_cases hl : 255 < l.length
  · rw [(Brk.r_big hl).1] at h; cases h
  · cases e : Brk.rdF [] l with
    | none => rw [(Brk.r_none hl e).1] at h; cases h
    | some r => exact ⟨q_rdF _ l [] r rfl e, by omega⟩
theorem kindW_q (k : Int) : allq (kindW k) = true := by unfold kindW; split; rfl; split <;> rfl
theorem lvlW_q (k : Int) : allq (lvlW k) = true := by unfold lvlW; split; rfl; split; rfl; split; rfl; split <;> rfl
/-- a statement without a block has a text, if its arguments have -/
theorem txt_flat {d : Nat} {k : Bs} {a : List Bs} (hk : isW k = true) (hl : a.length ≤ 16) (ha : ∀ x ∈ a, allq x = true) : ∃ t, txtN d (flat1 k a) = some t := by
  refine ⟨ind d ++ Lib.join (k :: a.map argT) [32] ++ [59, 10], ?_⟩
  rw [txtN_open]
  have : headT k a = some (Lib.join (k :: a.map argT) [32]) := by
    unfold headT
    rw [if_pos ⟨hk, hl, List.all_eq_true.2 fun x hx => by rw [argC_q (ha x hx)]; rfl⟩]
  show (match headT k a with | none => none | some h => if false = true then _ else if true = true then some (ind d ++ h ++ [59, 10]) else none) = _
  rw [this]; rfl
theorem txt_list {d : Nat} : ∀ (L : List Nd), (∀ x ∈ L, ∃ t, txtN d x = some t) → ∃ t, txtL d L = some t
  | [], _ => ⟨[], txtL_nil d⟩
  | x :: xs, h => by
    obtain ⟨t, ht⟩ := h x (by simp)
    obtain ⟨u, hu⟩ := txt_list xs fun y hy => h y (by simp [hy])
    exact ⟨t ++ u, by rw [txtL_cons, ht, hu]; rfl⟩
theorem txt_con {x : Cn} (hn : allq x.name = true) (hi : allq x.init = true) : ∃ t, txtN 0 (conN x) = some t := by
  obtain ⟨u, hu⟩ : ∃ t, txtL 1 (setNs x) = some t := by
    refine txt_list _ fun y hy => ?_
    simp only [setNs, List.mem_cons, List.not_mem_nil, or_false] at hy
    rcases hy with rfl | rfl | rfl | rfl | rfl | rfl | rfl
    all_goals refine txt_flat (by rfl) (by simp) ?_
    all_goals simp only [List.mem_cons, List.not_mem_nil, or_false, forall_eq_or_imp, forall_eq]
    · exact kindW_q _
    · exact q_dec
    · exact q_dec
    · exact q_dec
    · exact q_dec
    · exact ⟨q_dec, q_dec, q_dec⟩
    · exact hi
  refine ⟨ind 0 ++ Lib.join (sConsole :: [x.name].map argT) [32] ++ [32, 123, 10] ++ u ++ (ind 0 ++ [125, 10]), ?_⟩
  rw [txtN_open]
  have : headT sConsole [x.name] = some (Lib.join (sConsole :: [x.name].map argT) [32]) := by
    unfold headT
    rw [if_pos ⟨by rfl, by simp, by simp [okArgs, argC_q hn]⟩]
  show (match headT sConsole [x.name] with | none => none | some h => if true = true then (if (0 : Nat) = 4 then none else (txtL 1 (setNs x)).map fun t => ind 0 ++ h ++ [32, 123, 10] ++ t ++ (ind 0 ++ [125, 10])) else _) = _
  rw [this, hu]; rfl
theorem brkNs_mem : ∀ (R : List Bs) (i : Nat) (n : Nd), n ∈ brkNs i R → ∃ (k : Nat) (t : Bs), t ∈ R ∧ t ≠ [] ∧ n = flat1 sBreak [dec k, t]
  | [], _, _, h => by simp [brkNs] at h
  | t :: R, i, n, h => by
    rw [brkNs] at h
    split at h
    · obtain ⟨k, u, hu, r⟩ := brkNs_mem R (i + 1) n h
      exact ⟨k, u, by simp [hu], r⟩
    · rename_i ht
      rcases List.mem_cons.1 h with rfl | h
      · exact ⟨i, t, by simp, ht, rfl⟩
      · obtain ⟨k, u, hu, r⟩ := brkNs_mem R (i + 1) n h
        exact ⟨k, u, by simp [hu], r⟩
theorem print_ok {c : Cf} (h : OkC c) : ∃ t, printT c = some t := by
  refine txt_list _ fun n hn => ?_
  simp only [nodes, List.mem_append, List.mem_map] at hn
  rcases hn with hn | ⟨x, hx, rfl⟩ | ⟨g, hg, rfl⟩ | ⟨u, hu, rfl⟩ | ⟨a, ha, rfl⟩
  · obtain ⟨k, t, ht, hne, rfl⟩ := brkNs_mem _ _ _ hn
    refine txt_flat (by rfl) (by simp) ?_
    simp only [List.mem_cons, List.not_mem_nil, or_false, forall_eq_or_imp, forall_eq]
    exact ⟨q_dec, (q_rC (h.brks t ht hne)).1⟩
  · exact txt_con (q_isPat (name_pat (h.cons x hx).1)) (q_rC (h.cons x hx).2.init).1
  · obtain ⟨h1, h2, h3, h4⟩ := h.grps g hg
    refine txt_flat (by rfl) (by simp; omega) fun y hy => ?_
    rcases List.mem_cons.1 hy with rfl | hy
    · exact q_isPat (name_pat h1)
    · exact q_isPat (List.all_eq_true.1 h3 y hy)
  · obtain ⟨h1, h2, h3⟩ := h.usrs u hu
    refine txt_flat (by rfl) (by simp) ?_
    simp only [List.mem_cons, List.not_mem_nil, or_false, forall_eq_or_imp, forall_eq]
    exact ⟨q_isPat (name_pat h1), q_isW h2⟩
  · obtain ⟨h1, h2, h3, h4⟩ := h.accs a ha
    refine txt_flat (by rfl) (by simp) ?_
    simp only [List.mem_cons, List.not_mem_nil, or_false, forall_eq_or_imp, forall_eq]
    exact ⟨q_isPat h1, q_isPat h2, lvlW_q _⟩

/-! ### how many pieces -/
def tkc (c : Cf) : Nat := (tokL 0 (nodes c)).length
theorem tok_flat (d : Nat) (k : Bs) (a : List Bs) : (tokN d (flat1 k a)).length = a.length + 2 := by
  rw [tokN_open]; simp [flat1, Nd.args, Nd.block]
theorem tok_con (x : Cn) : (tokN 0 (conN x)).length = 27 := by
  rw [tokN_open]
  simp only [conN, Nd.args, Nd.block, Nd.list, setNs, tokL_cons, tokL_nil, if_true, List.length_cons, List.length_append, List.length_map, tok_flat, List.length_nil]
theorem tok_map {α : Type} (f : α → Nd) (g : α → Nat) : ∀ (L : List α), (∀ x ∈ L, (tokN 0 (f x)).length = g x) → (tokL 0 (L.map f)).length = (L.map g).sum
  | [], _ => by rw [List.map_nil, tokL_nil]; rfl
  | x :: L, h => by
    rw [List.map_cons, tokL_cons, List.length_append, tok_map f g L fun y hy => h y (by simp [hy]), h x (by simp)]; simp
def bcount (R : List Bs) : Nat := (R.map fun t => if t = [] then 0 else 4).sum
theorem tok_brks : ∀ (R : List Bs) (i : Nat), (tokL 0 (brkNs i R)).length = bcount R
  | [], i => by rw [brkNs, tokL_nil]; rfl
  | t :: R, i => by
    rw [brkNs]
    split
    · rename_i h
      rw [tok_brks R (i + 1)]; simp [bcount, h]
    · rename_i h
      rw [tokL_cons, List.length_append, tok_brks R (i + 1), tok_flat]; simp [bcount, h]
theorem sum_c {α : Type} (k : Nat) (L : List α) : (L.map fun _ => k).sum = k * L.length := by
  induction L with
  | nil => rfl
  | cons a L ih => rw [List.map_cons, List.sum_cons, ih, List.length_cons, Nat.mul_succ, Nat.add_comm]
theorem tkc_eq (c : Cf) : tkc c = bcount c.brks + (27 * c.cons.length + ((c.grps.map fun g => g.2.length + 3).sum + (4 * c.usrs.length + 5 * c.accs.length))) := by
  unfold tkc nodes
  rw [tokL_app, tokL_app, tokL_app, tokL_app]
  simp only [List.length_append]
  rw [tok_brks, tok_map conN (fun _ => 27) _ fun x _ => tok_con x, tok_map grpN (fun g => g.2.length + 3) _ fun g _ => by simp [grpN, tok_flat],
    tok_map usrN (fun _ => 4) _ fun u _ => by simp [usrN, tok_flat], tok_map accN (fun _ => 5) _ fun u _ => by simp [accN, tok_flat]]
  rw [sum_c, sum_c, sum_c]

/-! ### and how many there were -/
def one1 (l : Bs) : Nat := max 1 l.length
def aw (al : List Bs) : Nat := (al.map one1).sum
mutual
def wbN : Nd → Nat
  | .mk k a b l _ => k.length + aw a + (if b = true then 2 + wbL l else 1)
def wbL : List Nd → Nat
  | [] => 0
  | x :: xs => wbN x + wbL xs
end
theorem wbL_nil : wbL [] = 0 := by rw [wbL]
theorem wbL_cons (x : Nd) (xs : List Nd) : wbL (x :: xs) = wbN x + wbL xs := by rw [wbL]
theorem wb_open (x : Nd) : wbN x = x.key.length + aw x.args + (if x.block = true then 2 + wbL x.list else 1) := by cases x; rw [wbN]; rfl
theorem wbL_app : ∀ (A B : List Nd), wbL (A ++ B) = wbL A + wbL B
  | [], B => by rw [wbL_nil]; simp
  | x :: A, B => by rw [List.cons_append, wbL_cons, wbL_cons, wbL_app A B]; omega
theorem aw_len (al : List Bs) : al.length ≤ aw al := by
  induction al with
  | nil => simp [aw]
  | cons a al ih => simp only [aw, List.map_cons, List.sum_cons, List.length_cons, one1] at ih ⊢; omega
theorem sum_set : ∀ (R : List Bs) (i : Nat) (t : Bs), bcount (R.set i t) ≤ bcount R + 4
  | [], _, _ => by simp [bcount]
  | u :: R, 0, t => by simp only [List.set_cons_zero, bcount, List.map_cons, List.sum_cons]; split <;> split <;> omega
  | u :: R, i + 1, t => by
    have := sum_set R i t
    simp only [List.set_cons_succ, bcount, List.map_cons, List.sum_cons] at this ⊢
    omega
theorem plain_tk {c : Cf} {key : Bs} {args : List Bs} {b : Bool} (h : (plainM c key args b).1 = 0) : 10 * tkc (plainM c key args b).2 ≤ 10 * tkc c + 27 * (key.length + aw args + 1) := by
  have ha := aw_len args
  rw [tkc_eq, tkc_eq]
  unfold plainM at h ⊢
  split at h
  · cases h
  rename_i h0
  rw [if_neg h0]
  split at h
  · rename_i k1
    rw [if_pos k1, k1]
    unfold groupM at h ⊢
    split at h
    · rename_i nm p ps
      split at h
      · cases h
      · rename_i h1
        rw [if_neg h1]
        split at h
        · rename_i h2
          rw [if_pos h2]
          simp only [List.map_append, List.map_cons, List.map_nil, List.sum_append, List.sum_cons, List.sum_nil, List.length_cons, sGroup, List.length_nil] at ha ⊢
          omega
        · rename_i h2; exact absurd h h2
    · cases h
  rename_i k1
  rw [if_neg k1]
  split at h
  · rename_i k2
    rw [if_pos k2, k2]
    unfold userM at h ⊢
    split at h
    · split at h
      · cases h
      · rename_i h1
        rw [if_neg h1]
        split at h
        · rename_i h2
          rw [if_pos h2]
          simp only [List.length_append, List.length_cons, sUser, List.length_nil] at ha ⊢
          omega
        · rename_i h2; exact absurd h h2
    · cases h
  rename_i k2
  rw [if_neg k2]
  split at h
  · rename_i k3
    rw [if_pos k3, k3]
    unfold accM at h ⊢
    split at h
    · split at h
      · cases h
      · rename_i h1
        rw [if_neg h1]
        split at h
        · cases h
        · rename_i h2
          rw [if_neg h2]
          split at h
          · cases h
          · rename_i h3
            rw [if_neg h3]
            simp only [List.length_append, List.length_cons, sAccess, List.length_nil] at ha ⊢
            omega
    · cases h
  rename_i k3
  rw [if_neg k3]
  split at h
  · rename_i k4
    rw [if_pos k4, k4]
    unfold brkM at h ⊢
    split at h
    · rename_i k t
      split at h
      · cases h
      · rename_i h1
        rw [if_neg h1]
        split at h
        · cases h
        · rename_i h2
          rw [if_neg h2]
          split at h
          · rename_i h3; exact absurd h h3
          · rename_i h3
            rw [if_neg h3]
            split at h
            · cases h
            · rename_i h4
              rw [if_neg h4]
              split at h
              · cases h
              · rename_i h5
                rw [if_neg h5]
                have := sum_set c.brks (rdV k).toNat t
                simp only [List.length_cons, sBreak, List.length_nil] at ha ⊢
                omega
    · cases h
  · cases h
theorem step_tk {s s' : Sa} {n : Nd} (h : stepM s n = .ok s') : 10 * tkc s'.cf ≤ 10 * tkc s.cf + 27 * wbN n := by
  rw [wb_open]
  unfold stepM at h
  split at h
  · rename_i hk
    unfold conM at h
    split at h
    · rename_i nm ha
      split at h
      · cases h
      · split at h
        · cases h
        · split at h
          · cases h
          · rename_i hb hc _ x hx
            cases h
            rw [tkc_eq, tkc_eq, hk, ha, if_pos (by simpa using hb)]
            have := aw_len [nm]
            simp only [List.length_append, List.length_cons, List.length_nil, sConsole] at this ⊢
            omega
    · cases h
  · split at h
    · unfold defM at h
      split at h
      · split at h
        · cases h
        · split at h
          · cases h
          · cases h; show 10 * tkc s.cf ≤ _; omega
      · cases h
    · split at h
      · rename_i h2
        cases h
        have := plain_tk h2
        have hb : n.block = false := by
          unfold plainM at h2
          split at h2
          · cases h2
          · simpa using ‹¬ n.block = true›
        rw [if_neg (by simp [hb])]
        exact this
      · cases h
theorem fold_tk : ∀ (L : List Nd) (s s' : Sa), foldM s L = .ok s' → 10 * tkc s'.cf ≤ 10 * tkc s.cf + 27 * wbL L
  | [], s, s', h => by cases h; omega
  | n :: r, s, s', h => by
    cases e : stepM s n with
    | bad c l => rw [fold_bad e] at h; cases h
    | ok s1 =>
      rw [fold_ok e] at h
      have h1 := step_tk e
      have h2 := fold_tk r s1 s' h
      rw [wbL_cons]; omega

/-- the bytes that pieces stand for -/
def pw (P : List Pc) : Nat := (P.map fun p => one1 p.text).sum
theorem pw_cons (p : Pc) (P : List Pc) : pw (p :: P) = one1 p.text + pw P := by simp [pw]
theorem pw_app (P Q : List Pc) : pw (P ++ Q) = pw P + pw Q := by simp [pw]
theorem unq_len : ∀ (l : Bs) (b : Bool) (t : Bs) (n : Nat), unq b l = some (t, n) → t.length + 1 ≤ n
  | [], b, t, n, h => by rw [unq_nil] at h; cases h
  | c :: r, b, t, n, h => by
    rw [unq] at h
    split at h
    · cases h
    · split at h
      · obtain ⟨⟨u, m⟩, hu, e⟩ := Option.map_eq_some_iff.1 h
        cases e
        have := unq_len r _ u m hu
        dsimp only; omega
      · split at h
        · cases h; simp
        · obtain ⟨⟨u, m⟩, hu, e⟩ := Option.map_eq_some_iff.1 h
          cases e
          have := unq_len r _ u m hu
          simp only [List.length_cons]; omega
theorem first_one {l : Bs} {k : Int} {t : Bs} {n : Nat} (h : first l = some (k, t, n)) : one1 t ≤ n := by
  have hn := (first_le h).1
  unfold one1
  suffices t.length ≤ n by omega
  cases l with
  | nil => cases h
  | cons c r =>
    rw [first] at h
    split at h
    · cases h; simp
    split at h
    · cases h; simp
    split at h
    · cases h; simp
    split at h
    · obtain ⟨⟨u, m⟩, hu, e⟩ := Option.map_eq_some_iff.1 h
      cases e
      have := unq_len r _ u m hu
      dsimp only at this ⊢; omega
    split at h
    · cases h
      rw [List.length_take]; omega
    · cases h
theorem read_pw : ∀ (f : Nat) (acc : List Pc) (l : Bs) (line : Int) (P : List Pc), read f acc l line = .ok P → pw P ≤ pw acc + l.length
  | 0, acc, l, line, P, h => by unfold Lex.read at h; cases h
  | f + 1, acc, l, line, P, h => by
    by_cases hl : l = []
    · subst hl; rw [read_nil] at h; cases h; simp
    · by_cases h8 : acc.length = 8192
      · rw [read_many _ hl h8] at h; cases h
      · cases e : first l with
        | none => rw [read_bad _ hl h8 e] at h; cases h
        | some x =>
          obtain ⟨k, t, n⟩ := x
          rw [read_some _ hl h8 e] at h
          have h1 := read_pw f _ _ _ P h
          have h2 := first_one e
          have h3 := first_le e
          rw [pw_app, pw_cons] at h1
          rw [List.length_drop, List.length_drop] at h1
          have : pw [] = 0 := rfl
          dsimp only at h1
          omega
theorem total_pw {l : Bs} {P : List Pc} (h : total l = .ok P) : pw P ≤ l.length := by
  unfold total at h
  split at h
  · cases h
  · have := read_pw _ _ _ _ _ h
    rw [List.length_drop] at this
    have e : pw [] = 0 := rfl
    omega
theorem one1_pos (l : Bs) : 1 ≤ one1 l := by unfold one1; omega
theorem aw_app (A B : List Bs) : aw (A ++ B) = aw A + aw B := by simp [aw]
theorem argsOf_pw (last : Int) : ∀ (r : List Pc) (aas bs : List Bs) (o : Option Int) (r1 : List Pc), aas.length ≤ 16 → argsOf last aas r = .ok (bs, o) r1 → aw bs + 1 + pw r1 ≤ aw aas + pw r ∧ bs.length ≤ 16
  | [], aas, bs, o, r1, _, h => by rw [argsOf] at h; cases h
  | p :: r, aas, bs, o, r1, ha, h => by
    have hp := one1_pos p.text
    rw [argsOf] at h
    rw [pw_cons]
    split at h
    · split at h
      · cases h
      · obtain ⟨h1, h2⟩ := argsOf_pw last r (aas ++ [p.text]) bs o r1 (by simp; omega) h
        rw [aw_app] at h1
        have : aw [p.text] = one1 p.text := by simp [aw]
        exact ⟨by omega, h2⟩
    · split at h
      · cases h; exact ⟨by omega, ha⟩
      · split at h
        · cases h; exact ⟨by omega, ha⟩
        · cases h
def Few (n : Nd) : Prop := n.args.length ≤ 16
theorem stm_pw (last : Int) {B : Nat → List Pc → Rs (List Nd)} (hB : ∀ d r ns r2, B d r = .ok ns r2 → wbL ns + 1 + pw r2 ≤ pw r) {d : Nat} {k : Pc} {r r1 : List Pc} {n : Nd} (h : stm last B d k r = .ok n r1) : wbN n + pw r1 ≤ pw (k :: r) ∧ Few n := by
  have hk : k.text.length ≤ one1 k.text := by unfold one1; omega
  unfold stm at h
  split at h
  · split at h
    · cases h
    · rename_i aas r2 e
      injection h with e1 e2
      subst e1 e2
      obtain ⟨h1, h2⟩ := argsOf_pw last r [] aas none _ (by simp) e
      rw [wb_open, pw_cons]
      refine ⟨?_, h2⟩
      show k.text.length + aw aas + 1 + pw r2 ≤ one1 k.text + pw r
      have : aw [] = 0 := rfl
      omega
    · rename_i aas l r2 e
      obtain ⟨h1, h2⟩ := argsOf_pw last r [] aas (some l) _ (by simp) e
      split at h
      · cases h
      · split at h
        · cases h
        · rename_i ns r3 e3
          injection h with e1 e2
          subst e1 e2
          have h3 := hB _ _ _ _ e3
          rw [wb_open, pw_cons]
          refine ⟨?_, h2⟩
          show k.text.length + aw aas + (2 + wbL ns) + pw r3 ≤ one1 k.text + pw r
          have : aw [] = 0 := rfl
          omega
  · cases h
theorem blk_pw (last : Int) : ∀ (f d : Nat) (acc : List Nd) (r : List Pc) (ns : List Nd) (r2 : List Pc), blk last f d acc r = .ok ns r2 → wbL ns + 1 + pw r2 ≤ wbL acc + pw r
  | 0, _, _, _, _, _, h => by rw [blk] at h; cases h
  | f + 1, d, acc, [], _, _, h => by rw [blk_nil] at h; cases h
  | f + 1, d, acc, p :: r, ns, r2, h => by
    by_cases h4 : p.kind = 4
    · rw [blk_close _ _ _ _ h4] at h
      cases h
      have := one1_pos p.text
      rw [pw_cons]; omega
    · cases e : stm last (fun d r => blk last f d [] r) d p r with
      | bad c l => rw [blk_bad _ _ _ _ h4 e] at h; cases h
      | ok n r1 =>
        rw [blk_ok _ _ _ _ h4 e] at h
        have h1 := blk_pw last f d _ _ _ _ h
        have h2 := (stm_pw last (B := fun d r => blk last f d [] r) (fun d r ns r2 he => by have := blk_pw last f d [] r ns r2 he; rw [wbL_nil] at this; omega) e).1
        rw [wbL_app, wbL_cons, wbL_nil] at h1
        omega
theorem alls_pw (last : Int) : ∀ (f : Nat) (acc : List Nd) (r : List Pc) (ns : List Nd) (r2 : List Pc), (∀ n ∈ acc, Few n) → alls last f acc r = .ok ns r2 → wbL ns ≤ wbL acc + pw r ∧ ∀ n ∈ ns, Few n
  | 0, _, _, _, _, _, h => by rw [alls] at h; cases h
  | f + 1, acc, [], ns, r2, ha, h => by rw [alls_nil] at h; cases h; exact ⟨by omega, ha⟩
  | f + 1, acc, p :: r, ns, r2, ha, h => by
    cases e : stm last (fun d r => blk last f d [] r) 0 p r with
    | bad c l => rw [alls_bad _ _ _ e] at h; cases h
    | ok n r1 =>
      rw [alls_ok _ _ _ e] at h
      obtain ⟨h2, h3⟩ := stm_pw last (B := fun d r => blk last f d [] r) (fun d r ns r2 he => by have := blk_pw last f d [] r ns r2 he; rw [wbL_nil] at this; omega) e
      obtain ⟨h1, h4⟩ := alls_pw last f _ _ _ _ (fun m hm => by
        rcases List.mem_append.1 hm with hm | hm
        · exact ha m hm
        · rw [List.mem_singleton.1 hm]; exact h3) h
      rw [wbL_app, wbL_cons, wbL_nil] at h1
      exact ⟨by omega, h4⟩
theorem readT_few {s : Bs} {L : List Nd} (h : readT s = .ok L) : wbL L ≤ s.length ∧ ∀ n ∈ L, n.args.length ≤ 16 := by
  unfold readT at h
  split at h
  · cases h
  · rename_i P hP
    split at h
    · cases h
    · rename_i l r hl
      cases h
      obtain ⟨h1, h2⟩ := alls_pw _ _ [] _ _ _ (fun n hn => by cases hn) hl
      have := total_pw hP
      rw [wbL_nil] at h1
      exact ⟨by omega, h2⟩
theorem loadT_good {s : Bs} {c : Cf} (h : loadT s = .ok c) : OkC c ∧ 10 * tkc c ≤ 27 * s.length := by
  unfold loadT at h
  split at h
  · cases h
  · rename_i L hL
    obtain ⟨h1, h2⟩ := readT_few hL
    refine ⟨load_good h2 h, ?_⟩
    unfold loadL at h
    split at h
    · cases h
    · rename_i s' hs
      cases h
      have := fold_tk L _ s' hs
      have e : tkc empty = 0 := by rw [tkc_eq]; rfl
      rw [e] at this
      omega
/-- what may be, printed, is loaded as the same -/
theorem print_back {c : Cf} {t : Bs} (h : OkC c) (hp : printT c = some t) (hl : t.length ≤ 65536) (hn : tkc c ≤ 8192) : loadT t = .ok c := by
  obtain ⟨L, h1, h2⟩ := readT_txt hp hl hn
  unfold loadT
  rw [h2]
  have := load_sim h1
  rw [load_back h] at this
  dsimp only
  generalize loadL L = A at this
  cases this
  rfl
end Go.Proofs.YtajfdachpdkbcaaGreatDoor.Conf
end

section
namespace Go.Proofs.YtajfdachpdkbcaaGreatDoor.Conf
open Go.RowKit Go.Proofs.YtajfdachpdkbcaaGreatDoor.Lex Go.Proofs.YtajfdachpdkbcaaGreatDoor.Tree Go.Proofs.YtajfdachpdkbcaaGreatDoor.Word
open Go.Proofs.YtajfdachpdkbcaaGreatDoor.Digit (dec decN_ne decN_digit dec_len hexd dec_lt rdV rdC)

def sZz : Bs := [122, 122]
/-- `console zz { like ` -/
def lk1 : Bs := [99, 111, 110, 115, 111, 108, 101, 32, 122, 122, 32, 123, 32, 108, 105, 107, 101, 32]
/-- `; lines ` -/
def lk2 : Bs := [59, 32, 108, 105, 110, 101, 115, 32]
/-- `; }` -/
def lk3 : Bs := [59, 32, 125]
def lkT (nm : Bs) (k : Int) : Bs := lk1 ++ (nm ++ (lk2 ++ (dec k ++ lk3)))
def lkN (nm : Bs) (k : Int) : Nd := .mk sConsole [sZz] true [flat1 sLike [nm], flat1 sLines [dec k]] 0
def lkA (nm : Bs) (k : Int) : List Tk := [⟨[], 1, sConsole, []⟩, ⟨[32], 1, sZz, []⟩, ⟨[32], 3, [], []⟩, ⟨[32], 1, sLike, []⟩, ⟨[32], 1, nm, []⟩, ⟨[], 5, [], []⟩, ⟨[32], 1, sLines, []⟩, ⟨[32], 1, dec k, []⟩, ⟨[], 5, [], []⟩, ⟨[32], 4, [], []⟩]
theorem argK_w {a : Bs} (h : isW a = true) : argK a = 1 := by unfold argK; rw [if_pos h]
theorem ptC_w {a : Bs} (h : isW a = true) : ptC 1 a = 0 := ((ptC_word a).1 h).1
theorem ptT_w {a : Bs} (h : isW a = true) : ptT 1 a = a := by
  rcases put_kinds (ptC_w h) with ⟨_, _, e⟩ | ⟨e, _⟩ | ⟨e, _⟩ | ⟨e, _⟩ | ⟨e, _⟩
  · exact e
  all_goals exact absurd e (by decide)
theorem lk_body {nm : Bs} {k : Int} (h : isW nm = true) (hd : isW (dec k) = true) : body (lkA nm k) = lkT nm k := by
  simp only [lkA, body, ptT_w h, ptT_w hd, ptT_w (show isW sConsole = true by decide), ptT_w (show isW sZz = true by decide), ptT_w (show isW sLike = true by decide), ptT_w (show isW sLines = true by decide)]
  rw [show ptT 3 [] = [123] from rfl, show ptT 5 [] = [59] from rfl, show ptT 4 [] = [125] from rfl]
  simp [lkT, lk1, lk2, lk3, sConsole, sZz, sLike, sLines]
theorem lk_good {nm : Bs} {k : Int} (h : isW nm = true) (hd : isW (dec k) = true) : good (lkA nm k) := by
  refine ⟨ptC_w (by decide), bl_nil, bl_nil, fun _ => ⟨32, _, rfl, by decide⟩, ptC_w (by decide), bl_32, bl_nil, fun _ => ⟨32, _, rfl, by decide⟩, by decide, bl_32, bl_nil, fun h => absurd h (by decide), ptC_w (by decide), bl_32, bl_nil, fun _ => ⟨32, _, rfl, by decide⟩,
    ptC_w h, bl_32, bl_nil, fun _ => ⟨59, _, rfl, by decide⟩, by decide, bl_nil, bl_nil, fun h => absurd h (by decide), ptC_w (by decide), bl_32, bl_nil, fun _ => ⟨32, _, rfl, by decide⟩, ptC_w hd, bl_32, bl_nil, fun _ => ⟨59, _, rfl, by decide⟩, by decide, bl_nil, bl_nil, fun h => absurd h (by decide), by decide, bl_32, bl_nil, fun h => absurd h (by decide), trivial⟩
theorem lk_tok {nm : Bs} {k : Int} (h : isW nm = true) (hd : isW (dec k) = true) : (lkA nm k).map tkt = (tokL 0 [lkN nm k]).map tkt := by
  rw [tokL_cons, tokL_nil, List.append_nil, tokN_open]
  rw [show (lkN nm k).block = true from rfl, show (lkN nm k).list = [flat1 sLike [nm], flat1 sLines [dec k]] from rfl, show (lkN nm k).args = [sZz] from rfl, show (lkN nm k).key = sConsole from rfl, if_pos rfl, tokL_cons, tokL_cons, tokL_nil, List.append_nil, tokN_open, tokN_open]
  simp [lkA, tkt, flat1, Nd.key, Nd.args, Nd.block, argK_w h, argK_w hd, argK_w (show isW sZz = true by decide)]
theorem fine_app {d : Nat} {A B : List Nd} (h : Fine d A) (g : Fine d B) : Fine d (A ++ B) := by
  induction h with
  | nil => exact g
  | flat ha _ ih => exact .flat ha (ih g)
  | deep ha hd h _ _ ih => exact .deep ha hd h (ih g)
theorem lk_fine (nm : Bs) (k : Int) : Fine 0 [lkN nm k] := .deep (by simp) (by decide) (.flat (by simp) (.flat (by simp) (.nil _))) (.nil _)
theorem w_all {a : Bs} (hne : a ≠ []) (h : ∀ c ∈ a, wb c.toNat = true) : isW a = true := by
  have := wlen_all h []
  rw [List.append_nil, wlen_nil, Nat.add_zero] at this
  unfold isW
  rw [this]
  cases a with
  | nil => exact absurd rfl hne
  | cons c r => simp
theorem name_w {a : Bs} (h : isName a = true) : isW a = true := by
  simp only [isName, Bool.and_eq_true, Word.sized, decide_eq_true_eq] at h
  refine w_all (by rintro rfl; simp at h) fun c hc => ?_
  have := List.all_eq_true.1 h.2.2 c hc
  rw [wb_iff]
  simp only [inn, ltr, Bool.or_eq_true, decide_eq_true_eq] at this
  omega
theorem w_dec {k : Int} (h : 0 ≤ k) : isW (dec k) = true := by
  unfold dec
  rw [if_neg (by omega)]
  refine w_all (decN_ne _) fun c hc => ?_
  have := decN_digit _ c hc
  rw [wb_iff]; omega
theorem dec_le20 {k : Int} (h : 0 ≤ k ∧ k ≤ 256) : (dec k).length ≤ 20 := dec_len (by omega) (by omega)
theorem like_read {c : Cf} {t nm : Bs} {k : Int} (hp : printT c = some t) (h : isW nm = true) (hd : isW (dec k) = true) (hl : (t ++ lkT nm k).length ≤ 65536) (hn : tkc c + 10 ≤ 8192) : ∃ L, sameL L (nodes c ++ [lkN nm k]) = true ∧ readT (t ++ lkT nm k) = .ok L := by
  obtain ⟨g, rfl⟩ := good_tok _ (nodes c) 0 t rfl hp
  rw [← lk_body h hd, ← body_app] at hl ⊢
  refine readT_body (good_app g (lk_good h hd)) (fine_app (fine_txt _ _ 0 _ rfl hp) (lk_fine nm k)) ?_ hl ?_
  · rw [List.map_append, lk_tok h hd, tokL_app, List.map_append]
  · rw [List.length_append]
    show tkc c + _ ≤ _
    exact hn
theorem find_one (x : Cn) : findM [x] x.name = some x := by simp [findM]
theorem like_sets {x : Cn} {k : Int} (hk : 1 ≤ k ∧ k ≤ 256) : setsM [x] { usual with name := sZz } [flat1 sLike [x.name], flat1 sLines [dec k]] = .ok { x with name := sZz, lines := k } := by
  have e1 : setM [x] { usual with name := sZz } sLike [x.name] false = (0, { x with name := sZz }) := by
    unfold setM
    rw [if_neg (by decide), if_neg (by decide)]
    dsimp only
    unfold oneM
    rw [if_neg (by decide), if_neg (by decide), if_neg (by decide), if_neg (by decide), if_neg (by decide), if_neg (by decide), if_pos rfl]
    unfold likeM
    rw [find_one]
  have e2 : setM [x] { x with name := sZz } sLines [dec k] false = (0, { x with name := sZz, lines := k }) := by
    unfold setM
    rw [if_neg (by decide), if_neg (by decide)]
    dsimp only
    unfold oneM
    rw [if_neg (by decide), if_pos rfl, num_dec _ _ (by omega) (by omega) (by omega) (by omega), (rd_dec (by omega) (by omega)).1]
  show (if (setM [x] { usual with name := sZz } sLike [x.name] false).1 = 0 then setsM [x] (setM [x] { usual with name := sZz } sLike [x.name] false).2 [flat1 sLines [dec k]] else _) = _
  rw [e1, if_pos rfl]
  show (if (setM [x] { x with name := sZz } sLines [dec k] false).1 = 0 then setsM [x] (setM [x] { x with name := sZz } sLines [dec k] false).2 [] else _) = _
  rw [e2, if_pos rfl]
  rfl
/-- the console, and one like it -/
theorem like_load {x : Cn} {k : Int} {t : Bs} {c : Cf} (hc : c = ⟨[x], [], [], [], List.replicate 10 []⟩) (hok : OkC c) (hp : printT c = some t) (hz : x.name ≠ sZz) (hk : 1 ≤ k ∧ k ≤ 256) (hl : (t ++ lkT x.name k).length ≤ 65536) :
    loadT (t ++ lkT x.name k) = .ok { c with cons := [x, { x with name := sZz, lines := k }] } := by
  have hn : tkc c + 10 ≤ 8192 := by rw [tkc_eq, hc]; show 0 + (27 * 1 + (0 + (4 * 0 + 5 * 0))) + 10 ≤ 8192; decide
  have hx : isName x.name = true := (hok.cons x (by rw [hc]; exact List.mem_cons_self ..)).1
  obtain ⟨L, h1, h2⟩ := like_read hp (name_w hx) (w_dec (k := k) (by omega)) hl hn
  have hs : stepM ⟨c, usual⟩ (lkN x.name k) = .ok ⟨{ c with cons := [x, { x with name := sZz, lines := k }] }, usual⟩ := by
    have := con_ok (s := ⟨c, usual⟩) (n := lkN x.name k) (nm := sZz) (x := { x with name := sZz, lines := k }) rfl rfl (call_yes (by decide) (by
      rw [hc]; simp [takenC, hz]) (by rw [hc]; exact (by omega : (1 : Nat) < 4096))) (by rw [hc]; exact like_sets hk) rfl
    rw [this, hc]; rfl
  have hf : foldM ⟨empty, usual⟩ (nodes c ++ [lkN x.name k]) = .ok ⟨{ c with cons := [x, { x with name := sZz, lines := k }] }, usual⟩ := by
    rw [fold_app _ _ _ _ (fold_back hok usual), fold_ok hs, fold_nil]
  unfold loadT
  rw [h2]
  have := load_sim h1
  rw [show loadL (nodes c ++ [lkN x.name k]) = .ok { c with cons := [x, { x with name := sZz, lines := k }] } by unfold loadL; rw [hf]] at this
  dsimp only
  generalize loadL L = A at this
  cases this
  rfl
end Go.Proofs.YtajfdachpdkbcaaGreatDoor.Conf
end

section
namespace Go.Proofs.YtajfdachpdkbcaaGreatDoor.Conf
open Go.RowKit Go.Proofs.YtajfdachpdkbcaaGreatDoor.Lex Go.Proofs.YtajfdachpdkbcaaGreatDoor.Tree Go.Proofs.YtajfdachpdkbcaaGreatDoor.Word
open Go.Proofs.YtajfdachpdkbcaaGreatDoor.Brk (rC)
open Go.Proofs.YtajfdachpdkbcaaGreatDoor.Digit (dec decN_ne decN_digit dec_len hexd dec_lt rdV rdC)

def I64 (n : Int) : Prop := -9223372036854775808 ≤ n ∧ n ≤ 9223372036854775807
structure Ints (x : Cn) : Prop where
  kind : I64 x.kind
  lines : I64 x.lines
  bytes : I64 x.bytes
  gens : I64 x.gens
  size : I64 x.size
  base : I64 x.base
  cap : I64 x.cap
  jit : I64 x.jit
structure Szd (c : Cf) : Prop where
  cons : c.cons.length ≤ 4096 ∧ ∀ x ∈ c.cons, x.name.length ≤ 4000 ∧ x.init.length ≤ 4000 ∧ Ints x
  grps : c.grps.length ≤ 4096 ∧ ∀ g ∈ c.grps, g.1.length ≤ 4000 ∧ g.2.length ≤ 4000 ∧ ∀ t ∈ g.2, t.length ≤ 4000
  usrs : c.usrs.length ≤ 4096 ∧ ∀ u ∈ c.usrs, u.1.length ≤ 4000 ∧ u.2.length ≤ 4000
  accs : c.accs.length ≤ 4096 ∧ ∀ a ∈ c.accs, a.1.length ≤ 4000 ∧ a.2.1.length ≤ 4000
  brks : c.brks.length = 10 ∧ ∀ t ∈ c.brks, t.length ≤ 4000
theorem wtL_app : ∀ A B : List Nd, wtL (A ++ B) = wtL A + wtL B
  | [], B => by rw [wtL_nil]; simp
  | x :: A, B => by rw [List.cons_append, wtL_cons, wtL_cons, wtL_app A B]; omega
theorem wt_flat (k : Bs) (al : List Bs) : (flat1 k al).wt = k.length + awt al + 64 := by
  rw [wt_open]; show _ + _ + 64 + wtL [] = _; rw [wtL_nil]; rfl
theorem awt_nil : awt [] = 0 := rfl
theorem wtL_map {α : Type} (f : α → Nd) (K : Nat) : ∀ l : List α, (∀ x ∈ l, (f x).wt ≤ K) → wtL (l.map f) ≤ l.length * K
  | [], _ => by rw [List.map_nil, wtL_nil]; omega
  | x :: r, h => by
    have h1 := h x (List.mem_cons_self ..)
    have h2 := wtL_map f K r fun y hy => h y (List.mem_cons_of_mem _ hy)
    rw [List.map_cons, wtL_cons, List.length_cons, Nat.succ_mul]; omega
theorem kindW_len (k : Int) : (kindW k).length ≤ 6 := by
  unfold kindW
  split
  · decide
  · split <;> decide
theorem lvlW_len (k : Int) : (lvlW k).length ≤ 5 := by
  unfold lvlW
  split
  · decide
  · split
    · decide
    · split
      · decide
      · split <;> decide
theorem wt_con {x : Cn} (h1 : x.name.length ≤ 4000) (h2 : x.init.length ≤ 4000) (h : Ints x) : (conN x).wt ≤ 30000 := by
  have a0 := kindW_len x.kind
  have a1 := dec_len h.lines.1 h.lines.2
  have a2 := dec_len h.bytes.1 h.bytes.2
  have a3 := dec_len h.gens.1 h.gens.2
  have a4 := dec_len h.size.1 h.size.2
  have a5 := dec_len h.base.1 h.base.2
  have a6 := dec_len h.cap.1 h.cap.2
  have a7 := dec_len h.jit.1 h.jit.2
  rw [wt_open]
  show sConsole.length + awt [x.name] + 64 + wtL (setNs x) ≤ _
  unfold setNs
  simp only [wtL_cons, wtL_nil, wt_flat, awt_cons, awt_nil]
  rw [show sConsole.length = 7 from rfl, show sKind.length = 4 from rfl, show sLines.length = 5 from rfl, show sBytes.length = 5 from rfl, show sGens.length = 4 from rfl, show sSize.length = 4 from rfl, show sRetry.length = 5 from rfl, show sInit.length = 4 from rfl]
  omega
theorem awt_le_mul (K : Nat) : ∀ al : List Bs, (∀ t ∈ al, t.length ≤ K) → awt al ≤ al.length * (2 * K + 3)
  | [], _ => by rw [awt_nil]; omega
  | x :: r, h => by
    have h1 := h x (List.mem_cons_self ..)
    have h2 := awt_le_mul K r fun y hy => h y (List.mem_cons_of_mem _ hy)
    rw [awt_cons, List.length_cons, Nat.add_mul, Nat.one_mul]
    generalize r.length * (2 * K + 3) = z at *
    omega
theorem wt_brks : ∀ (R : List Bs) (i : Nat), i + R.length ≤ 1000 → (∀ t ∈ R, t.length ≤ 4000) → wtL (brkNs i R) ≤ R.length * 9000
  | [], i, _, _ => by rw [show brkNs i [] = [] from rfl, wtL_nil]; omega
  | t :: r, i, hi, h => by
    have h1 := h t (List.mem_cons_self ..)
    rw [List.length_cons] at hi
    have h2 := wt_brks r (i + 1) (by omega) fun y hy => h y (List.mem_cons_of_mem _ hy)
    have h3 : (dec (i : Int)).length ≤ 20 := dec_len (by omega) (by omega)
    rw [brkNs, List.length_cons, Nat.add_mul, Nat.one_mul]
    split
    · exact Nat.le_trans h2 (Nat.le_add_right _ _)
    · rw [wtL_cons, wt_flat, awt_cons, awt_cons, awt_nil, show sBreak.length = 5 from rfl]
      generalize wtL (brkNs (i + 1) r) = z at *
      generalize (dec (i : Int)).length = d at *
      generalize r.length * 9000 = m at *
      omega
theorem wt_grp {g : Bs × List Bs} (h : g.1.length ≤ 4000 ∧ g.2.length ≤ 4000 ∧ ∀ t ∈ g.2, t.length ≤ 4000) : (grpN g).wt ≤ 32100000 := by
  unfold grpN
  rw [wt_flat, awt_cons, show sGroup.length = 5 from rfl]
  have := awt_le_mul 4000 g.2 h.2.2
  have h2 : g.2.length * (2 * 4000 + 3) ≤ 4000 * (2 * 4000 + 3) := Nat.mul_le_mul_right _ h.2.1
  have := h.1
  omega
theorem wt_nodes {c : Cf} (h : Szd c) : wtL (nodes c) ≤ 549755813888 := by
  unfold nodes
  rw [wtL_app, wtL_app, wtL_app, wtL_app]
  have b0 := wt_brks c.brks 0 (by rw [h.brks.1]; omega) h.brks.2
  have b1 := wtL_map conN 30000 c.cons fun x hx => wt_con (h.cons.2 x hx).1 (h.cons.2 x hx).2.1 (h.cons.2 x hx).2.2
  have b2 := wtL_map grpN 32100000 c.grps fun g hg => wt_grp (h.grps.2 g hg)
  have b3 := wtL_map usrN 17000 c.usrs fun u hu => by
    unfold usrN; rw [wt_flat, awt_cons, awt_cons, awt_nil, show sUser.length = 4 from rfl]; have := h.usrs.2 u hu; omega
  have b4 := wtL_map accN 17000 c.accs fun a ha => by
    unfold accN; rw [wt_flat, awt_cons, awt_cons, awt_cons, awt_nil, show sAccess.length = 6 from rfl]; have := h.accs.2 a ha; have := lvlW_len a.2.2; omega
  have m1 : c.cons.length * 30000 ≤ 4096 * 30000 := Nat.mul_le_mul_right _ h.cons.1
  have m2 : c.grps.length * 32100000 ≤ 4096 * 32100000 := Nat.mul_le_mul_right _ h.grps.1
  have m3 : c.usrs.length * 17000 ≤ 4096 * 17000 := Nat.mul_le_mul_right _ h.usrs.1
  have m4 : c.accs.length * 17000 ≤ 4096 * 17000 := Nat.mul_le_mul_right _ h.accs.1
  rw [h.brks.1] at b0
  omega
theorem r_len {a : Bs} (h : rC a = 0) : a.length ≤ 4000 := by
  by_cases hl : 255 < a.length
  · rw [(Brk.r_big hl).1] at h; cases h
  · omega
theorem ok_szd {c : Cf} (h : OkC c) : Szd c := by
  have nl : ∀ {a : Bs}, isName a = true → a.length ≤ 4000 := fun h => by
    simp only [isName, Bool.and_eq_true, Word.sized, decide_eq_true_eq] at h; omega
  refine ⟨⟨h.consL, fun x hx => ?_⟩, ⟨h.grpsL, fun g hg => ?_⟩, ⟨h.usrsL, fun u hu => ?_⟩, ⟨h.accsL, fun a ha => ?_⟩, h.brksL, fun t ht => ?_⟩
  · obtain ⟨h1, h2⟩ := h.cons x hx
    have := h2.kind; have := h2.lines; have := h2.bytes; have := h2.gens; have := h2.size; have := h2.base; have := h2.cap; have := h2.jit
    exact ⟨nl h1, r_len h2.init, ⟨⟨by omega, by omega⟩, ⟨by omega, by omega⟩, ⟨by omega, by omega⟩, ⟨by omega, by omega⟩, ⟨by omega, by omega⟩, ⟨by omega, by omega⟩, ⟨by omega, by omega⟩, ⟨by omega, by omega⟩⟩⟩
  · obtain ⟨h1, h2, h3, h4⟩ := h.grps g hg
    exact ⟨nl h1, by omega, fun t ht => by have := pat_len (List.all_eq_true.1 h3 t ht); omega⟩
  · obtain ⟨h1, h2, h3⟩ := h.usrs u hu
    exact ⟨nl h1, by omega⟩
  · obtain ⟨h1, h2, _⟩ := h.accs a ha
    have := pat_len h1; have := pat_len h2
    exact ⟨by omega, by omega⟩
  · by_cases e : t = []
    · subst e; decide
    · exact r_len (h.brks t ht e)
end Go.Proofs.YtajfdachpdkbcaaGreatDoor.Conf
end

section
namespace Go.Proofs.YtajfdachpdkbcaaGreatDoor.Conf
open Go.RowKit Go.Proofs.YtajfdachpdkbcaaGreatDoor.Own Go.Proofs.YtajfdachpdkbcaaGreatDoor.Rw Go.Proofs.YtajfdachpdkbcaaGreatDoor.Tree
open Go.Proofs.YtajfdachpdkbcaaGreatDoor.Digit (dec)

/-- what a temporary holds -/
inductive Kd where
  | adr (k : Nat)
  | num (n : Int)
  | tx (t : Bs)
  | row (ts : List Bs)
  | nod (key : Bs) (ts : List Bs)
  | kin
  | fin (ns : List Nd)
def Kd.sat (B b : Nat) (w : World) (v : Value) : Kd → Prop
  | .adr k => v = .pointer (some ⟨b, k, none⟩)
  | .num n => v = .int .i64 n
  | .tx t => v = .string ⟨t.toArray⟩
  | .row ts => ∃ g, v = .slice (some ⟨g, 0, none⟩) ts.length ts.length ∧ w.ownsRow B 9 1 v ts.length (strs ts)
  | .nod key ts => ∃ g, v = plainV key (.slice (some ⟨g, 0, none⟩) ts.length ts.length) ∧ w.ownsRow B 9 1 (.slice (some ⟨g, 0, none⟩) ts.length ts.length) ts.length (strs ts)
  | .kin => ∃ g, v = .slice (some ⟨g, 0, none⟩) 2 2 ∧ w.heap[g]? = some (.cells kindArr 9 (0, 0))
  | .fin ns => ∃ g, v = .slice (some ⟨g, 0, none⟩) ns.length ns.length ∧ Fo B w v ns
theorem Kd.mono {B b : Nat} {w w' : World} {v : Value} {k : Kd} (hb : Below w.heap.size w w') (h : k.sat B b w v) : k.sat B b w' v := by
  cases k with
  | adr k => exact h
  | num n => exact h
  | tx t => exact h
  | row ts => exact h.imp fun g h => ⟨h.1, own_below h.2 hb⟩
  | nod key ts => exact h.imp fun g h => ⟨h.1, own_below h.2 hb⟩
  | kin => exact h.imp fun g h => ⟨h.1, (hb.block _ (at_lt h.2)).trans h.2⟩
  | fin ns => exact h.imp fun g h => ⟨h.1, h.2.below hb⟩
def subK (n : Int) : Int := if n = -9223372036854775808 then 9223372036854775807 else n - 1
theorem word_sub {n : Int} (h : I64 n) : wAt [sSerial, sPty] (subK n) = kindW n := by
  unfold subK
  split
  · rename_i e
    subst e
    rfl
  · by_cases h1 : n - 1 < 0
    · rw [wAt_neg h1]
      unfold kindW
      rw [if_neg (by omega), if_neg (by omega)]
    · obtain ⟨k, hk⟩ : ∃ k : Nat, n - 1 = k := ⟨(n - 1).toNat, by omega⟩
      rw [hk]
      unfold kindW
      match k, hk with
      | 0, hk => rw [if_pos (by omega)]; rfl
      | 1, hk => rw [if_neg (by omega), if_pos (by omega)]; rfl
      | k + 2, hk => rw [if_neg (by omega), if_neg (by omega)]; exact wAt_far (by simp)
theorem wrap_sub {n : Int} (h : I64 n) : IntKind.i64.wrap (n - 1) = subK n := by
  have := h.1
  have := h.2
  unfold subK
  split
  · rename_i e
    subst e
    decide
  · simp [IntKind.wrap, IntKind.signed, IntKind.bits]
    omega
theorem row_new {B : Nat} (w : World) (ts : List Bs) (n : Nat) (hn : n = ts.length) (hB : B ≤ w.heap.size) (hl : ts.length ≤ 1000) (cs : Array Value) (hc : cs = (strs ts).toArray) :
    (w.alloc (.cells cs 9)).ownsRow B 9 1 (.slice (some ⟨w.heap.size, 0, none⟩) n n) n (strs ts) := by
  subst hc hn
  have := own_base (own_new w (strs ts) 9 w.heap.size rfl (by rw [strs_len]; unfold maxLen; omega)) hB
  rwa [strs_len] at this
theorem kin_tx {w : World} {g : Nat} (h : w.heap[g]? = some (.cells kindArr 9 (0, 0))) : Texts w (some ⟨g, 0, none⟩) 2 [sSerial, sPty] :=
  ⟨⟨by decide, by decide, .inr ⟨g, 0, rfl, at_lt h, fun i x hx => by
    rw [at_cell h]
    match i, hx with
    | 0, hx => exact hx
    | 1, hx => exact hx
    | i + 2, hx => cases hx⟩⟩⟩
/-- seven statements in a block of their own -/
theorem own_rows (w : World) (xs : List Value) (e : TypeId) (k n : Nat) (hl : xs.length = n * k) (hn : n ≤ maxLen) : (w.alloc (.cells xs.toArray e)).ownsRow w.heap.size e k (.slice (some ⟨w.heap.size, 0, none⟩) n n) n xs :=
  ⟨hl, .inr ⟨w.heap.size, n, xs.toArray, rfl, Nat.le_refl _, at_new w _, Nat.le_refl _, hn, by simp [hl], by simp [← hl]⟩⟩
theorem ls_one {w : World} {B g : Nat} {k : Bs} {ts : List Bs} {X : Nat → Prop} {cs : List Value} {ns : List Nd} (h : w.ownsRow B 9 1 (.slice (some ⟨g, 0, none⟩) ts.length ts.length) ts.length (strs ts)) (hX : ¬ X g) (r : Ls w X cs ns) :
    Ls w X (.string ⟨k.toArray⟩ :: .slice (some ⟨g, 0, none⟩) ts.length ts.length :: .bool false :: .slice none 0 0 :: .int .i64 0 :: cs) (flat1 k ts :: ns) :=
  .cons (own_base h (Nat.zero_le _)) (fun k e => by cases e; exact hX) (World.ownsRow_nil _ _ _ _) (fun k e => by cases e) .nil r
theorem seven_new {B : Nat} {w : World} {g0 g1 g2 g3 g4 g5 g6 : Nat} {k0 k1 k2 k3 k4 k5 k6 : Bs} {t0 t1 t2 t3 t4 t5 t6 : List Bs} (hB : B ≤ w.heap.size)
    (o0 : w.ownsRow B 9 1 (.slice (some ⟨g0, 0, none⟩) t0.length t0.length) t0.length (strs t0)) (o1 : w.ownsRow B 9 1 (.slice (some ⟨g1, 0, none⟩) t1.length t1.length) t1.length (strs t1))
    (o2 : w.ownsRow B 9 1 (.slice (some ⟨g2, 0, none⟩) t2.length t2.length) t2.length (strs t2)) (o3 : w.ownsRow B 9 1 (.slice (some ⟨g3, 0, none⟩) t3.length t3.length) t3.length (strs t3))
    (o4 : w.ownsRow B 9 1 (.slice (some ⟨g4, 0, none⟩) t4.length t4.length) t4.length (strs t4)) (o5 : w.ownsRow B 9 1 (.slice (some ⟨g5, 0, none⟩) t5.length t5.length) t5.length (strs t5))
    (o6 : w.ownsRow B 9 1 (.slice (some ⟨g6, 0, none⟩) t6.length t6.length) t6.length (strs t6)) :
    Fo B (w.alloc (.cells #[.string ⟨k0.toArray⟩, .slice (some ⟨g0, 0, none⟩) t0.length t0.length, .bool false, .slice none 0 0, .int .i64 0, .string ⟨k1.toArray⟩, .slice (some ⟨g1, 0, none⟩) t1.length t1.length, .bool false, .slice none 0 0, .int .i64 0, .string ⟨k2.toArray⟩, .slice (some ⟨g2, 0, none⟩) t2.length t2.length, .bool false, .slice none 0 0, .int .i64 0, .string ⟨k3.toArray⟩, .slice (some ⟨g3, 0, none⟩) t3.length t3.length, .bool false, .slice none 0 0, .int .i64 0, .string ⟨k4.toArray⟩, .slice (some ⟨g4, 0, none⟩) t4.length t4.length, .bool false, .slice none 0 0, .int .i64 0, .string ⟨k5.toArray⟩, .slice (some ⟨g5, 0, none⟩) t5.length t5.length, .bool false, .slice none 0 0, .int .i64 0, .string ⟨k6.toArray⟩, .slice (some ⟨g6, 0, none⟩) t6.length t6.length, .bool false, .slice none 0 0, .int .i64 0] 57)) (.slice (some ⟨w.heap.size, 0, none⟩) 7 7) [flat1 k0 t0, flat1 k1 t1, flat1 k2 t2, flat1 k3 t3, flat1 k4 t4, flat1 k5 t5, flat1 k6 t6] := by
  refine ⟨[.string ⟨k0.toArray⟩, .slice (some ⟨g0, 0, none⟩) t0.length t0.length, .bool false, .slice none 0 0, .int .i64 0, .string ⟨k1.toArray⟩, .slice (some ⟨g1, 0, none⟩) t1.length t1.length, .bool false, .slice none 0 0, .int .i64 0, .string ⟨k2.toArray⟩, .slice (some ⟨g2, 0, none⟩) t2.length t2.length, .bool false, .slice none 0 0, .int .i64 0, .string ⟨k3.toArray⟩, .slice (some ⟨g3, 0, none⟩) t3.length t3.length, .bool false, .slice none 0 0, .int .i64 0, .string ⟨k4.toArray⟩, .slice (some ⟨g4, 0, none⟩) t4.length t4.length, .bool false, .slice none 0 0, .int .i64 0, .string ⟨k5.toArray⟩, .slice (some ⟨g5, 0, none⟩) t5.length t5.length, .bool false, .slice none 0 0, .int .i64 0, .string ⟨k6.toArray⟩, .slice (some ⟨g6, 0, none⟩) t6.length t6.length, .bool false, .slice none 0 0, .int .i64 0], own_base (own_rows w [.string ⟨k0.toArray⟩, .slice (some ⟨g0, 0, none⟩) t0.length t0.length, .bool false, .slice none 0 0, .int .i64 0, .string ⟨k1.toArray⟩, .slice (some ⟨g1, 0, none⟩) t1.length t1.length, .bool false, .slice none 0 0, .int .i64 0, .string ⟨k2.toArray⟩, .slice (some ⟨g2, 0, none⟩) t2.length t2.length, .bool false, .slice none 0 0, .int .i64 0, .string ⟨k3.toArray⟩, .slice (some ⟨g3, 0, none⟩) t3.length t3.length, .bool false, .slice none 0 0, .int .i64 0, .string ⟨k4.toArray⟩, .slice (some ⟨g4, 0, none⟩) t4.length t4.length, .bool false, .slice none 0 0, .int .i64 0, .string ⟨k5.toArray⟩, .slice (some ⟨g5, 0, none⟩) t5.length t5.length, .bool false, .slice none 0 0, .int .i64 0, .string ⟨k6.toArray⟩, .slice (some ⟨g6, 0, none⟩) t6.length t6.length, .bool false, .slice none 0 0, .int .i64 0] _ 5 7 rfl (by unfold maxLen; decide)) hB, ?_⟩
  have a : ∀ {g : Nat} {t : List Bs}, w.ownsRow B 9 1 (.slice (some ⟨g, 0, none⟩) t.length t.length) t.length (strs t) → ¬ (g < B ∨ (Value.slice (some ⟨w.heap.size, 0, none⟩) 7 7).ownBlock = some g) := fun {g t} h hx => by
    have hl := own_lt h (k := g) rfl
    rcases hx with hx | hx
    · omega
    · injection hx with hx
      exact absurd (show w.heap.size = g from hx) (by omega)
  have hb := (Below.refl w.heap.size w).alloc (Nat.le_refl _) (.cells #[.string ⟨k0.toArray⟩, .slice (some ⟨g0, 0, none⟩) t0.length t0.length, .bool false, .slice none 0 0, .int .i64 0, .string ⟨k1.toArray⟩, .slice (some ⟨g1, 0, none⟩) t1.length t1.length, .bool false, .slice none 0 0, .int .i64 0, .string ⟨k2.toArray⟩, .slice (some ⟨g2, 0, none⟩) t2.length t2.length, .bool false, .slice none 0 0, .int .i64 0, .string ⟨k3.toArray⟩, .slice (some ⟨g3, 0, none⟩) t3.length t3.length, .bool false, .slice none 0 0, .int .i64 0, .string ⟨k4.toArray⟩, .slice (some ⟨g4, 0, none⟩) t4.length t4.length, .bool false, .slice none 0 0, .int .i64 0, .string ⟨k5.toArray⟩, .slice (some ⟨g5, 0, none⟩) t5.length t5.length, .bool false, .slice none 0 0, .int .i64 0, .string ⟨k6.toArray⟩, .slice (some ⟨g6, 0, none⟩) t6.length t6.length, .bool false, .slice none 0 0, .int .i64 0] 57)
  exact ls_one (own_below o0 hb) (a o0) (ls_one (own_below o1 hb) (a o1) (ls_one (own_below o2 hb) (a o2) (ls_one (own_below o3 hb) (a o3) (ls_one (own_below o4 hb) (a o4) (ls_one (own_below o5 hb) (a o5) (ls_one (own_below o6 hb) (a o6) .nil))))))
def stDs : List Nat := [3, 4, 5, 6, 7, 8, 9, 10, 11, 12, 13, 14, 15, 16, 17, 18, 19, 20, 21, 22, 23, 24, 25, 26, 27, 28, 29, 30, 31, 32, 33, 34, 35, 36, 37, 38, 39, 40, 41, 42, 43, 44, 45, 2]
def stKs (x : Cn) : List Kd := [.kin, .adr 1, .num x.kind, .num (subK x.kind), .tx (kindW x.kind), .row [kindW x.kind], .nod sKind [kindW x.kind],
  .adr 2, .num x.lines, .tx (dec x.lines), .row [dec x.lines], .nod sLines [dec x.lines],
  .adr 3, .num x.bytes, .tx (dec x.bytes), .row [dec x.bytes], .nod sBytes [dec x.bytes],
  .adr 4, .num x.gens, .tx (dec x.gens), .row [dec x.gens], .nod sGens [dec x.gens],
  .adr 5, .num x.size, .tx (dec x.size), .row [dec x.size], .nod sSize [dec x.size],
  .adr 6, .num x.base, .tx (dec x.base), .adr 7, .num x.cap, .tx (dec x.cap), .adr 8, .num x.jit, .tx (dec x.jit), .row [dec x.base, dec x.cap, dec x.jit], .nod sRetry [dec x.base, dec x.cap, dec x.jit],
  .adr 9, .tx x.init, .row [x.init], .nod sInit [x.init], .fin (setNs x), .fin (setNs x)]
set_option maxRecDepth 100000 in
set_option maxHeartbeats 8000000 in
theorem settings_calls (x : Cn) (hx : Ints x) (w : World) :
    Calls Tryz.prog 24 #[cnV x] w fun e w' => ∃ g, e = .returned (.slice (some ⟨g, 0, none⟩) 7 7) ∧ Fo w.heap.size w' (.slice (some ⟨g, 0, none⟩) 7 7) (setNs x) ∧ Below w.heap.size w w' := by
  have HX := Lib.hid hx
  unfold cnV
  go_enter Tryz.func24, Tryz.ntmps24
  go_wp2_with fail
  rename_i K0 hK0
  have N0 := at_new w (.cells #[.string ⟨x.name.toArray⟩, .int .i64 x.kind, .int .i64 x.lines, .int .i64 x.bytes, .int .i64 x.gens, .int .i64 x.size, .int .i64 x.base, .int .i64 x.cap, .int .i64 x.jit, .string ⟨x.init.toArray⟩] 42)
  have B0 := (Below.refl w.heap.size w).alloc (Nat.le_refl _) (.cells #[.string ⟨x.name.toArray⟩, .int .i64 x.kind, .int .i64 x.lines, .int .i64 x.bytes, .int .i64 x.gens, .int .i64 x.size, .int .i64 x.base, .int .i64 x.cap, .int .i64 x.jit, .string ⟨x.init.toArray⟩] 42)
  refine Reg.wp_specs (by kernel_rfl) stDs (fun i w' v => ((stKs x).getD i .kin).sat w.heap.size w.heap.size w' v) (by kernel_rfl) (fun i w1 w2 v hb h => Kd.mono hb h) ?_ ?_
  · intro i o a' w' ho hs
    have e1 := (hs.other 1 (by decide)).trans rfl
    have N1 := (hs.below.block _ (at_lt N0)).trans N0
    have hsz := hs.below.size
    have hBw : w.heap.size ≤ w'.heap.size := Nat.le_trans (Nat.le_of_lt (at_lt N0)) hsz
    match i, ho, hs with
    | 0, ho, hs =>
      obtain rfl := Option.some.inj ho
      refine wp_kinds _ rfl ((kinds_calls _).mono ?_)
      rintro e w2 ⟨rfl, rfl⟩
      exact ⟨_, rfl, _, rfl, ⟨w'.heap.size, rfl, at_new _ _⟩, (Below.refl _ _).alloc (Nat.le_refl _) _⟩
    | 1, ho, hs =>
      obtain rfl := Option.some.inj ho
      exact wp_fa 1 (by decide) w.heap.size rfl e1 ⟨_, rfl, rfl, Below.refl _ _⟩
    | 2, ho, hs =>
      obtain rfl := Option.some.inj ho
      obtain ⟨_, h1, rfl⟩ := hs.dep 1 (Reg.mem_of (by kernel_rfl))
      exact wp_load_int 4 _ _ rfl h1 (at_cell N1 1) ⟨_, rfl, rfl, Below.refl _ _⟩
    | 3, ho, hs =>
      obtain rfl := Option.some.inj ho
      obtain ⟨_, h1, rfl⟩ := hs.dep 2 (Reg.mem_of (by kernel_rfl))
      exact wp_sub1 5 _ rfl h1 ⟨_, rfl, congrArg (Value.int .i64) (wrap_sub HX.out.kind), Below.refl _ _⟩
    | 4, ho, hs =>
      obtain rfl := Option.some.inj ho
      obtain ⟨_, h1, g, rfl, hg⟩ := hs.dep 0 (Reg.mem_of (by kernel_rfl))
      obtain ⟨_, h2, rfl⟩ := hs.dep 3 (Reg.mem_of (by kernel_rfl))
      refine wp_word 3 6 _ _ _ rfl h1 h2 ((wordAt_calls [sSerial, sPty] 2 rfl (some ⟨g, 0, none⟩) 2 (subK x.kind) w' (kin_tx hg)).mono ?_)
      rintro e w2 ⟨rfl, rfl⟩
      exact ⟨_, rfl, _, rfl, by rw [word_sub HX.out.kind]; rfl, Below.refl _ _⟩
    | 5, ho, hs =>
      obtain rfl := Option.some.inj ho
      obtain ⟨_, h0, rfl⟩ := hs.dep 4 (Reg.mem_of (by kernel_rfl))
      exact wp_row1 7 _ rfl h0 ⟨_, rfl, ⟨w'.heap.size, rfl, row_new w' _ _ rfl hBw (by simp) _ rfl⟩, (Below.refl _ _).alloc (Nat.le_refl _) _⟩
    | 6, ho, hs =>
      obtain rfl := Option.some.inj ho
      obtain ⟨_, h1, g, rfl, ho⟩ := hs.dep 5 (Reg.mem_of (by kernel_rfl))
      refine wp_plain 8 _ _ _ rfl h1 ((plain_calls sKind (some ⟨g, 0, none⟩) _ _ _).mono ?_)
      rintro e w2 ⟨rfl, hb⟩
      exact ⟨_, rfl, _, rfl, ⟨g, rfl, own_below ho hb⟩, hb⟩
    | 7, ho, hs =>
      obtain rfl := Option.some.inj ho
      exact wp_fa 2 (by decide) w.heap.size rfl e1 ⟨_, rfl, rfl, Below.refl _ _⟩
    | 8, ho, hs =>
      obtain rfl := Option.some.inj ho
      obtain ⟨_, h1, rfl⟩ := hs.dep 7 (Reg.mem_of (by kernel_rfl))
      exact wp_load_int 10 _ _ rfl h1 (at_cell N1 2) ⟨_, rfl, rfl, Below.refl _ _⟩
    | 9, ho, hs =>
      obtain rfl := Option.some.inj ho
      obtain ⟨_, h1, rfl⟩ := hs.dep 8 (Reg.mem_of (by kernel_rfl))
      refine wp_put 11 _ _ rfl h1 ((Go.Proofs.YtajfdachpdkbcaaGreatDoor.Digit.put_calls x.lines HX.out.lines.1 HX.out.lines.2 _).mono ?_)
      rintro e w2 ⟨rfl, hb⟩
      exact ⟨_, rfl, _, rfl, rfl, hb⟩
    | 10, ho, hs =>
      obtain rfl := Option.some.inj ho
      obtain ⟨_, h0, rfl⟩ := hs.dep 9 (Reg.mem_of (by kernel_rfl))
      exact wp_row1 12 _ rfl h0 ⟨_, rfl, ⟨w'.heap.size, rfl, row_new w' _ _ rfl hBw (by simp) _ rfl⟩, (Below.refl _ _).alloc (Nat.le_refl _) _⟩
    | 11, ho, hs =>
      obtain rfl := Option.some.inj ho
      obtain ⟨_, h1, g, rfl, ho⟩ := hs.dep 10 (Reg.mem_of (by kernel_rfl))
      refine wp_plain 13 _ _ _ rfl h1 ((plain_calls sLines (some ⟨g, 0, none⟩) _ _ _).mono ?_)
      rintro e w2 ⟨rfl, hb⟩
      exact ⟨_, rfl, _, rfl, ⟨g, rfl, own_below ho hb⟩, hb⟩
    | 12, ho, hs =>
      obtain rfl := Option.some.inj ho
      exact wp_fa 3 (by decide) w.heap.size rfl e1 ⟨_, rfl, rfl, Below.refl _ _⟩
    | 13, ho, hs =>
      obtain rfl := Option.some.inj ho
      obtain ⟨_, h1, rfl⟩ := hs.dep 12 (Reg.mem_of (by kernel_rfl))
      exact wp_load_int 15 _ _ rfl h1 (at_cell N1 3) ⟨_, rfl, rfl, Below.refl _ _⟩
    | 14, ho, hs =>
      obtain rfl := Option.some.inj ho
      obtain ⟨_, h1, rfl⟩ := hs.dep 13 (Reg.mem_of (by kernel_rfl))
      refine wp_put 16 _ _ rfl h1 ((Go.Proofs.YtajfdachpdkbcaaGreatDoor.Digit.put_calls x.bytes HX.out.bytes.1 HX.out.bytes.2 _).mono ?_)
      rintro e w2 ⟨rfl, hb⟩
      exact ⟨_, rfl, _, rfl, rfl, hb⟩
    | 15, ho, hs =>
      obtain rfl := Option.some.inj ho
      obtain ⟨_, h0, rfl⟩ := hs.dep 14 (Reg.mem_of (by kernel_rfl))
      exact wp_row1 17 _ rfl h0 ⟨_, rfl, ⟨w'.heap.size, rfl, row_new w' _ _ rfl hBw (by simp) _ rfl⟩, (Below.refl _ _).alloc (Nat.le_refl _) _⟩
    | 16, ho, hs =>
      obtain rfl := Option.some.inj ho
      obtain ⟨_, h1, g, rfl, ho⟩ := hs.dep 15 (Reg.mem_of (by kernel_rfl))
      refine wp_plain 18 _ _ _ rfl h1 ((plain_calls sBytes (some ⟨g, 0, none⟩) _ _ _).mono ?_)
      rintro e w2 ⟨rfl, hb⟩
      exact ⟨_, rfl, _, rfl, ⟨g, rfl, own_below ho hb⟩, hb⟩
    | 17, ho, hs =>
      obtain rfl := Option.some.inj ho
      exact wp_fa 4 (by decide) w.heap.size rfl e1 ⟨_, rfl, rfl, Below.refl _ _⟩
    | 18, ho, hs =>
      obtain rfl := Option.some.inj ho
      obtain ⟨_, h1, rfl⟩ := hs.dep 17 (Reg.mem_of (by kernel_rfl))
      exact wp_load_int 20 _ _ rfl h1 (at_cell N1 4) ⟨_, rfl, rfl, Below.refl _ _⟩
    | 19, ho, hs =>
      obtain rfl := Option.some.inj ho
      obtain ⟨_, h1, rfl⟩ := hs.dep 18 (Reg.mem_of (by kernel_rfl))
      refine wp_put 21 _ _ rfl h1 ((Go.Proofs.YtajfdachpdkbcaaGreatDoor.Digit.put_calls x.gens HX.out.gens.1 HX.out.gens.2 _).mono ?_)
      rintro e w2 ⟨rfl, hb⟩
      exact ⟨_, rfl, _, rfl, rfl, hb⟩
    | 20, ho, hs =>
      obtain rfl := Option.some.inj ho
      obtain ⟨_, h0, rfl⟩ := hs.dep 19 (Reg.mem_of (by kernel_rfl))
      exact wp_row1 22 _ rfl h0 ⟨_, rfl, ⟨w'.heap.size, rfl, row_new w' _ _ rfl hBw (by simp) _ rfl⟩, (Below.refl _ _).alloc (Nat.le_refl _) _⟩
    | 21, ho, hs =>
      obtain rfl := Option.some.inj ho
      obtain ⟨_, h1, g, rfl, ho⟩ := hs.dep 20 (Reg.mem_of (by kernel_rfl))
      refine wp_plain 23 _ _ _ rfl h1 ((plain_calls sGens (some ⟨g, 0, none⟩) _ _ _).mono ?_)
      rintro e w2 ⟨rfl, hb⟩
      exact ⟨_, rfl, _, rfl, ⟨g, rfl, own_below ho hb⟩, hb⟩
    | 22, ho, hs =>
      obtain rfl := Option.some.inj ho
      exact wp_fa 5 (by decide) w.heap.size rfl e1 ⟨_, rfl, rfl, Below.refl _ _⟩
    | 23, ho, hs =>
      obtain rfl := Option.some.inj ho
      obtain ⟨_, h1, rfl⟩ := hs.dep 22 (Reg.mem_of (by kernel_rfl))
      exact wp_load_int 25 _ _ rfl h1 (at_cell N1 5) ⟨_, rfl, rfl, Below.refl _ _⟩
    | 24, ho, hs =>
      obtain rfl := Option.some.inj ho
      obtain ⟨_, h1, rfl⟩ := hs.dep 23 (Reg.mem_of (by kernel_rfl))
      refine wp_put 26 _ _ rfl h1 ((Go.Proofs.YtajfdachpdkbcaaGreatDoor.Digit.put_calls x.size HX.out.size.1 HX.out.size.2 _).mono ?_)
      rintro e w2 ⟨rfl, hb⟩
      exact ⟨_, rfl, _, rfl, rfl, hb⟩
    | 25, ho, hs =>
      obtain rfl := Option.some.inj ho
      obtain ⟨_, h0, rfl⟩ := hs.dep 24 (Reg.mem_of (by kernel_rfl))
      exact wp_row1 27 _ rfl h0 ⟨_, rfl, ⟨w'.heap.size, rfl, row_new w' _ _ rfl hBw (by simp) _ rfl⟩, (Below.refl _ _).alloc (Nat.le_refl _) _⟩
    | 26, ho, hs =>
      obtain rfl := Option.some.inj ho
      obtain ⟨_, h1, g, rfl, ho⟩ := hs.dep 25 (Reg.mem_of (by kernel_rfl))
      refine wp_plain 28 _ _ _ rfl h1 ((plain_calls sSize (some ⟨g, 0, none⟩) _ _ _).mono ?_)
      rintro e w2 ⟨rfl, hb⟩
      exact ⟨_, rfl, _, rfl, ⟨g, rfl, own_below ho hb⟩, hb⟩
    | 27, ho, hs =>
      obtain rfl := Option.some.inj ho
      exact wp_fa 6 (by decide) w.heap.size rfl e1 ⟨_, rfl, rfl, Below.refl _ _⟩
    | 28, ho, hs =>
      obtain rfl := Option.some.inj ho
      obtain ⟨_, h1, rfl⟩ := hs.dep 27 (Reg.mem_of (by kernel_rfl))
      exact wp_load_int 30 _ _ rfl h1 (at_cell N1 6) ⟨_, rfl, rfl, Below.refl _ _⟩
    | 29, ho, hs =>
      obtain rfl := Option.some.inj ho
      obtain ⟨_, h1, rfl⟩ := hs.dep 28 (Reg.mem_of (by kernel_rfl))
      refine wp_put 31 _ _ rfl h1 ((Go.Proofs.YtajfdachpdkbcaaGreatDoor.Digit.put_calls x.base HX.out.base.1 HX.out.base.2 _).mono ?_)
      rintro e w2 ⟨rfl, hb⟩
      exact ⟨_, rfl, _, rfl, rfl, hb⟩
    | 30, ho, hs =>
      obtain rfl := Option.some.inj ho
      exact wp_fa 7 (by decide) w.heap.size rfl e1 ⟨_, rfl, rfl, Below.refl _ _⟩
    | 31, ho, hs =>
      obtain rfl := Option.some.inj ho
      obtain ⟨_, h1, rfl⟩ := hs.dep 30 (Reg.mem_of (by kernel_rfl))
      exact wp_load_int 33 _ _ rfl h1 (at_cell N1 7) ⟨_, rfl, rfl, Below.refl _ _⟩
    | 32, ho, hs =>
      obtain rfl := Option.some.inj ho
      obtain ⟨_, h1, rfl⟩ := hs.dep 31 (Reg.mem_of (by kernel_rfl))
      refine wp_put 34 _ _ rfl h1 ((Go.Proofs.YtajfdachpdkbcaaGreatDoor.Digit.put_calls x.cap HX.out.cap.1 HX.out.cap.2 _).mono ?_)
      rintro e w2 ⟨rfl, hb⟩
      exact ⟨_, rfl, _, rfl, rfl, hb⟩
    | 33, ho, hs =>
      obtain rfl := Option.some.inj ho
      exact wp_fa 8 (by decide) w.heap.size rfl e1 ⟨_, rfl, rfl, Below.refl _ _⟩
    | 34, ho, hs =>
      obtain rfl := Option.some.inj ho
      obtain ⟨_, h1, rfl⟩ := hs.dep 33 (Reg.mem_of (by kernel_rfl))
      exact wp_load_int 36 _ _ rfl h1 (at_cell N1 8) ⟨_, rfl, rfl, Below.refl _ _⟩
    | 35, ho, hs =>
      obtain rfl := Option.some.inj ho
      obtain ⟨_, h1, rfl⟩ := hs.dep 34 (Reg.mem_of (by kernel_rfl))
      refine wp_put 37 _ _ rfl h1 ((Go.Proofs.YtajfdachpdkbcaaGreatDoor.Digit.put_calls x.jit HX.out.jit.1 HX.out.jit.2 _).mono ?_)
      rintro e w2 ⟨rfl, hb⟩
      exact ⟨_, rfl, _, rfl, rfl, hb⟩
    | 36, ho, hs =>
      obtain rfl := Option.some.inj ho
      obtain ⟨_, h0, rfl⟩ := hs.dep 29 (Reg.mem_of (by kernel_rfl))
      obtain ⟨_, h1, rfl⟩ := hs.dep 32 (Reg.mem_of (by kernel_rfl))
      obtain ⟨_, h2, rfl⟩ := hs.dep 35 (Reg.mem_of (by kernel_rfl))
      exact wp_row3 32 35 38 _ _ _ rfl h0 h1 h2 ⟨_, rfl, ⟨w'.heap.size, rfl, row_new w' _ _ rfl hBw (by simp) _ rfl⟩, (Below.refl _ _).alloc (Nat.le_refl _) _⟩
    | 37, ho, hs =>
      obtain rfl := Option.some.inj ho
      obtain ⟨_, h1, g, rfl, ho⟩ := hs.dep 36 (Reg.mem_of (by kernel_rfl))
      refine wp_plain 39 _ _ _ rfl h1 ((plain_calls sRetry (some ⟨g, 0, none⟩) _ _ _).mono ?_)
      rintro e w2 ⟨rfl, hb⟩
      exact ⟨_, rfl, _, rfl, ⟨g, rfl, own_below ho hb⟩, hb⟩
    | 38, ho, hs =>
      obtain rfl := Option.some.inj ho
      exact wp_fa 9 (by decide) w.heap.size rfl e1 ⟨_, rfl, rfl, Below.refl _ _⟩
    | 39, ho, hs =>
      obtain rfl := Option.some.inj ho
      obtain ⟨_, h1, rfl⟩ := hs.dep 38 (Reg.mem_of (by kernel_rfl))
      exact wp_load_str 41 _ _ rfl h1 (at_cell N1 9) ⟨_, rfl, rfl, Below.refl _ _⟩
    | 40, ho, hs =>
      obtain rfl := Option.some.inj ho
      obtain ⟨_, h0, rfl⟩ := hs.dep 39 (Reg.mem_of (by kernel_rfl))
      exact wp_row1 42 _ rfl h0 ⟨_, rfl, ⟨w'.heap.size, rfl, row_new w' _ _ rfl hBw (by simp) _ rfl⟩, (Below.refl _ _).alloc (Nat.le_refl _) _⟩
    | 41, ho, hs =>
      obtain rfl := Option.some.inj ho
      obtain ⟨_, h1, g, rfl, ho⟩ := hs.dep 40 (Reg.mem_of (by kernel_rfl))
      refine wp_plain 43 _ _ _ rfl h1 ((plain_calls sInit (some ⟨g, 0, none⟩) _ _ _).mono ?_)
      rintro e w2 ⟨rfl, hb⟩
      exact ⟨_, rfl, _, rfl, ⟨g, rfl, own_below ho hb⟩, hb⟩
    | 42, ho, hs =>
      obtain rfl := Option.some.inj ho
      obtain ⟨_, h0, g0, rfl, o0⟩ := hs.dep 6 (Reg.mem_of (by kernel_rfl))
      obtain ⟨_, h1, g1, rfl, o1⟩ := hs.dep 11 (Reg.mem_of (by kernel_rfl))
      obtain ⟨_, h2, g2, rfl, o2⟩ := hs.dep 16 (Reg.mem_of (by kernel_rfl))
      obtain ⟨_, h3, g3, rfl, o3⟩ := hs.dep 21 (Reg.mem_of (by kernel_rfl))
      obtain ⟨_, h4, g4, rfl, o4⟩ := hs.dep 26 (Reg.mem_of (by kernel_rfl))
      obtain ⟨_, h5, g5, rfl, o5⟩ := hs.dep 37 (Reg.mem_of (by kernel_rfl))
      obtain ⟨_, h6, g6, rfl, o6⟩ := hs.dep 41 (Reg.mem_of (by kernel_rfl))
      unfold plainV at h0 h1 h2 h3 h4 h5 h6
      exact wp_nodes 9 14 19 24 29 40 44 _ _ _ _ _ _ _ (fun i => ([⟨g0, 0, none⟩, ⟨g1, 0, none⟩, ⟨g2, 0, none⟩, ⟨g3, 0, none⟩, ⟨g4, 0, none⟩, ⟨g5, 0, none⟩, ⟨g6, 0, none⟩] : List Addr).getD i ⟨0, 0, none⟩) (fun i => [1, 1, 1, 1, 1, 3, 1].getD i 0) rfl h0 h1 h2 h3 h4 h5 h6 ⟨_, rfl, ⟨w'.heap.size, rfl, seven_new hBw o0 o1 o2 o3 o4 o5 o6⟩, (Below.refl _ _).alloc (Nat.le_refl _) _⟩
    | 43, ho, hs =>
      obtain rfl := Option.some.inj ho
      obtain ⟨_, h1, g, rfl, hfo⟩ := hs.dep 42 (Reg.mem_of (by kernel_rfl))
      exact wp_assign 45 _ rfl h1 ⟨_, rfl, ⟨g, rfl, hfo⟩, Below.refl _ _⟩
    | i + 44, ho, _ => exact absurd ho (by simp)
  · intro a' w' hsz hdf hot hdn hb
    obtain ⟨v, hv, g, rfl, hfo⟩ := hdn 43 (by decide)
    have h2 : a'.tmps[2]? = some (.slice (some ⟨g, 0, none⟩) 7 7) := hv
    clear hv
    show K0 a' w'
    refine hK0 _ _ ?_
    refine wp_ret ?_
    show bodyPost _ _ _ Exit.ret a' w'
    refine bodyPost_ret (v := .slice (some ⟨g, 0, none⟩) 7 7) ?_ (hdf.trans rfl) ⟨g, rfl, hfo, ?_⟩
    · simp [results, Tryz.results24, go_sem, h2]
    · exact (below_drew B0).trans (hb.mono (Nat.le_of_lt (at_lt N0)))
end Go.Proofs.YtajfdachpdkbcaaGreatDoor.Conf
end

section
namespace Go.Proofs.YtajfdachpdkbcaaGreatDoor.Lex
open Go.RowKit Go.Proofs.YtajfdachpdkbcaaGreatDoor.Own

/-- a slice that holds pieces -/
structure Pcs (w : World) (xs : List Pc) (p : Option Addr) (c : Nat) : Prop where
  cap : xs.length ≤ c
  max : c ≤ maxLen
  cells : xs = [] ∨ ∃ b, p = some ⟨b, 0, none⟩ ∧ b < w.heap.size ∧ ∀ i (hi : i < xs.length), w.cell? ⟨b, i * 3, none⟩ = some (.int .i64 xs[i].kind) ∧ w.cell? ⟨b, i * 3 + 1, none⟩ = some (.string ⟨xs[i].text.toArray⟩) ∧ w.cell? ⟨b, i * 3 + 2, none⟩ = some (.int .i64 xs[i].line)
theorem Pcs.kept {w w' : World} {xs : List Pc} {p : Option Addr} {c : Nat} (h : Pcs w xs p c) (hb : Below w.heap.size w w') : Pcs w' xs p c :=
  ⟨h.cap, h.max, h.cells.imp id fun ⟨b, e, hl, k⟩ => ⟨b, e, Nat.lt_of_lt_of_le hl hb.size, fun i hi => by
    obtain ⟨k0, k1, k2⟩ := k i hi
    exact ⟨(hb.cell (p := ⟨b, _, none⟩) hl).trans k0, (hb.cell (p := ⟨b, _, none⟩) hl).trans k1, (hb.cell (p := ⟨b, _, none⟩) hl).trans k2⟩⟩⟩
theorem Pcs.out {w w' : World} {xs : List Pc} {p : Option Addr} {c : Nat} {S : Nat → Prop} (h : Pcs w xs p c) (hb : Out S w w') (hS : ∀ a, p = some a → ¬ S a.block) : Pcs w' xs p c :=
  ⟨h.cap, h.max, h.cells.imp id fun ⟨b, e, hl, k⟩ => ⟨b, e, Nat.lt_of_lt_of_le hl hb.size, fun i hi => by
    obtain ⟨k0, k1, k2⟩ := k i hi
    have hn : ¬ S b := hS _ e
    exact ⟨(hb.cell (p := ⟨b, _, none⟩) hl hn).trans k0, (hb.cell (p := ⟨b, _, none⟩) hl hn).trans k1, (hb.cell (p := ⟨b, _, none⟩) hl hn).trans k2⟩⟩⟩
end Go.Proofs.YtajfdachpdkbcaaGreatDoor.Lex
end


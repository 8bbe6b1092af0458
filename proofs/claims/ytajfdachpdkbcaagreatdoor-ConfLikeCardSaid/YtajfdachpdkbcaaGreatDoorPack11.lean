/-
Layer 15 (conf): a setting.
Layer 15 (conf): the settings of a block, one by one.
Maps whose elements are whatever values: 'KMap P k kv w b f n': block b of w is a map of n entries; the entry at the key kv a holds the value v just where f a = some v.
Layer 15 (conf): the map of names: its keys.
Layer 15 (conf): one more in the loader.
-/
import Derived.Test.YtajfdachpdkbcaaGreatDoorPack10
import Derived.Maps.OwnSet
import Derived.Maps.OwnOps
import Derived.Maps.Keyed
import Derived.DeepKeys4
section
namespace Go.Proofs.YtajfdachpdkbcaaGreatDoor.Conf
open Go.RowKit Go.Proofs.YtajfdachpdkbcaaGreatDoor.Own Go.Proofs.YtajfdachpdkbcaaGreatDoor.Rw Go.Proofs.YtajfdachpdkbcaaGreatDoor.Tree
open Go.Proofs.YtajfdachpdkbcaaGreatDoor.Digit (rdV rdC IsTick rd_some rd_none)

def ndV (key : Bs) (pa : Option Addr) (na ca : Nat) (block : Bool) (pl : Option Addr) (nl cl : Nat) (line : Int) : Value := .agg #[.string ⟨key.toArray⟩, .slice pa na ca, .bool block, .slice pl nl cl, .int .i64 line]
def ndA (key : Bs) (pa : Option Addr) (na ca : Nat) (block : Bool) (pl : Option Addr) (nl cl : Nat) (line : Int) : Array Value := #[.string ⟨key.toArray⟩, .slice pa na ca, .bool block, .slice pl nl cl, .int .i64 line]
theorem SetPost.up {b : Nat} {T : TypeId} {pre post : List Value} {r : Int × Cn} {w w1 w' : World} {e : Ending} (hb : Below w.heap.size w w1) (h : SetPost b T pre post r w1 e w') : SetPost b T pre post r w e w' :=
  ⟨h.1, (Out.ofNew hb).trans h.2.1 fun _ _ h => h, h.2.2⟩
theorem num_post {b o j : Nat} {T : TypeId} {pre post : List Value} {x y : Cn} {a : Bs} {lo hi : Int} {w : World} {e : Ending} {w' : World} (h : Tgt w b T pre x post) (ho : o = pre.length) (hj : j < 10) (hy : (cnv x).set j (.int .i64 (rdV a)) = cnv y)
    (hp : NumPost a lo hi b (o + j) w e w') : SetPost b T pre post (numM x a lo hi y) w e w' := by
  obtain ⟨rfl, w1, hb, rfl⟩ := hp
  obtain ⟨e1, e2⟩ := num_pair x y a lo hi
  obtain ⟨h1, h2⟩ := post_stw (c := numC a lo hi) (v := .int .i64 (rdV a)) (x' := y) h hb ho hj fun _ => hy
  exact ⟨by rw [e1], h1, fun hc => by rw [e1] at hc; rw [e2 hc]; exact h2 hc⟩
set_option maxRecDepth 100000 in
set_option maxHeartbeats 4000000 in
theorem set_lines (a : Bs) (ha : a.length ≤ 65536) (pa pl : Option Addr) (ca nl cl : Nat) (line : Int) (lb b o : Nat) (T : TypeId) (pre post : List Value) (x : Cn) (ho : o = pre.length) (p : Option Addr) (k : Nat) (v1 v2 v3 : Value) (bs : List Bs) (cs : List Cn) (w : World)
    (h : Tgt w b T pre x post) (hK : LdK w lb b pre p k v1 v2 v3 bs cs) (ht : Texts w pa ca [a]) :
    Calls Tryz.prog 115 #[.pointer (some ⟨lb, 0, none⟩), .pointer (some ⟨b, o, none⟩), ndV sLines pa 1 ca false pl nl cl line] w (SetPost b T pre post (numM x a 1 1024 { x with lines := rdV a }) w) := by
  have HO := Lib.hid ho
  obtain ⟨g, og, rfl, hg, hcell⟩ : ∃ g o', pa = some ⟨g, o', none⟩ ∧ g < w.heap.size ∧ w.cell? ⟨g, o', none⟩ = some (.string ⟨a.toArray⟩) := by
    rcases ht.cells with h0 | ⟨g, o', e, hg, hc⟩
    · cases h0
    · exact ⟨g, o', e, hg, hc 0 (by simp)⟩
  have hca := ht.cap
  have HK := Lib.hid hK
  have BA := Lib.hid ((Below.refl w.heap.size w).alloc (Nat.le_refl _) (.cells (ndA sLines (some ⟨g, og, none⟩) 1 ca false pl nl cl line) 57))
  have TA := h.below BA.out
  have KA := Lib.hid (HK.out.below BA.out)
  have yc := (BA.out.cell (p := ⟨g, og, none⟩) hg).trans hcell
  have HA := Lib.hid ha
  unfold ndA at BA TA KA yc
  have hca1 : 1 ≤ ca := hca.1
  unfold ndV
  clear ho ht hK h hcell hca ha hg
  unfold sLines
  unfold sLines at BA TA KA yc
  have c1 := TA.cell HO.out (j := 2) (by omega) rfl
  have f1 := TA.frozen (o + 2)
  have l1 := TA.lt
  have TA := Lib.hid TA
  go_enter Tryz.func115, Tryz.ntmps115
  go_wp2_with fail
  refine (setNumber_calls a HA.out 1 1024 b (o + 2) _ _ l1 c1 f1).mono ?_
  intro e w1 hp
  obtain ⟨e1, e2⟩ := num_pair x { x with lines := rdV a } a 1 1024
  have HP := Lib.hid (SetPost.up BA.out (num_post (y := { x with lines := rdV a }) TA.out HO.out (by omega) rfl hp))
  obtain ⟨rfl, -⟩ := hp
  generalize numC a 1 1024 = c at *
  go_wp2_with fail
  go_ret
  exact HP.out
set_option maxRecDepth 100000 in
set_option maxHeartbeats 4000000 in
theorem set_bytes (a : Bs) (ha : a.length ≤ 65536) (pa pl : Option Addr) (ca nl cl : Nat) (line : Int) (lb b o : Nat) (T : TypeId) (pre post : List Value) (x : Cn) (ho : o = pre.length) (p : Option Addr) (k : Nat) (v1 v2 v3 : Value) (bs : List Bs) (cs : List Cn) (w : World)
    (h : Tgt w b T pre x post) (hK : LdK w lb b pre p k v1 v2 v3 bs cs) (ht : Texts w pa ca [a]) :
    Calls Tryz.prog 115 #[.pointer (some ⟨lb, 0, none⟩), .pointer (some ⟨b, o, none⟩), ndV sBytes pa 1 ca false pl nl cl line] w (SetPost b T pre post (numM x a 1 65536 { x with bytes := rdV a }) w) := by
  have HO := Lib.hid ho
  obtain ⟨g, og, rfl, hg, hcell⟩ : ∃ g o', pa = some ⟨g, o', none⟩ ∧ g < w.heap.size ∧ w.cell? ⟨g, o', none⟩ = some (.string ⟨a.toArray⟩) := by
    rcases ht.cells with h0 | ⟨g, o', e, hg, hc⟩
    · cases h0
    · exact ⟨g, o', e, hg, hc 0 (by simp)⟩
  have hca := ht.cap
  have HK := Lib.hid hK
  have BA := Lib.hid ((Below.refl w.heap.size w).alloc (Nat.le_refl _) (.cells (ndA sBytes (some ⟨g, og, none⟩) 1 ca false pl nl cl line) 57))
  have TA := h.below BA.out
  have KA := Lib.hid (HK.out.below BA.out)
  have yc := (BA.out.cell (p := ⟨g, og, none⟩) hg).trans hcell
  have HA := Lib.hid ha
  unfold ndA at BA TA KA yc
  have hca1 : 1 ≤ ca := hca.1
  unfold ndV
  clear ho ht hK h hcell hca ha hg
  unfold sBytes
  unfold sBytes at BA TA KA yc
  have c1 := TA.cell HO.out (j := 3) (by omega) rfl
  have f1 := TA.frozen (o + 3)
  have l1 := TA.lt
  have TA := Lib.hid TA
  go_enter Tryz.func115, Tryz.ntmps115
  go_wp2_with fail
  refine (setNumber_calls a HA.out 1 65536 b (o + 3) _ _ l1 c1 f1).mono ?_
  intro e w1 hp
  obtain ⟨e1, e2⟩ := num_pair x { x with bytes := rdV a } a 1 65536
  have HP := Lib.hid (SetPost.up BA.out (num_post (y := { x with bytes := rdV a }) TA.out HO.out (by omega) rfl hp))
  obtain ⟨rfl, -⟩ := hp
  generalize numC a 1 65536 = c at *
  go_wp2_with fail
  go_ret
  exact HP.out
set_option maxRecDepth 100000 in
set_option maxHeartbeats 4000000 in
theorem set_gens (a : Bs) (ha : a.length ≤ 65536) (pa pl : Option Addr) (ca nl cl : Nat) (line : Int) (lb b o : Nat) (T : TypeId) (pre post : List Value) (x : Cn) (ho : o = pre.length) (p : Option Addr) (k : Nat) (v1 v2 v3 : Value) (bs : List Bs) (cs : List Cn) (w : World)
    (h : Tgt w b T pre x post) (hK : LdK w lb b pre p k v1 v2 v3 bs cs) (ht : Texts w pa ca [a]) :
    Calls Tryz.prog 115 #[.pointer (some ⟨lb, 0, none⟩), .pointer (some ⟨b, o, none⟩), ndV sGens pa 1 ca false pl nl cl line] w (SetPost b T pre post (numM x a 1 16 { x with gens := rdV a }) w) := by
  have HO := Lib.hid ho
  obtain ⟨g, og, rfl, hg, hcell⟩ : ∃ g o', pa = some ⟨g, o', none⟩ ∧ g < w.heap.size ∧ w.cell? ⟨g, o', none⟩ = some (.string ⟨a.toArray⟩) := by
    rcases ht.cells with h0 | ⟨g, o', e, hg, hc⟩
    · cases h0
    · exact ⟨g, o', e, hg, hc 0 (by simp)⟩
  have hca := ht.cap
  have HK := Lib.hid hK
  have BA := Lib.hid ((Below.refl w.heap.size w).alloc (Nat.le_refl _) (.cells (ndA sGens (some ⟨g, og, none⟩) 1 ca false pl nl cl line) 57))
  have TA := h.below BA.out
  have KA := Lib.hid (HK.out.below BA.out)
  have yc := (BA.out.cell (p := ⟨g, og, none⟩) hg).trans hcell
  have HA := Lib.hid ha
  unfold ndA at BA TA KA yc
  have hca1 : 1 ≤ ca := hca.1
  unfold ndV
  clear ho ht hK h hcell hca ha hg
  unfold sGens
  unfold sGens at BA TA KA yc
  have c1 := TA.cell HO.out (j := 4) (by omega) rfl
  have f1 := TA.frozen (o + 4)
  have l1 := TA.lt
  have TA := Lib.hid TA
  go_enter Tryz.func115, Tryz.ntmps115
  go_wp2_with fail
  refine (setNumber_calls a HA.out 1 16 b (o + 4) _ _ l1 c1 f1).mono ?_
  intro e w1 hp
  obtain ⟨e1, e2⟩ := num_pair x { x with gens := rdV a } a 1 16
  have HP := Lib.hid (SetPost.up BA.out (num_post (y := { x with gens := rdV a }) TA.out HO.out (by omega) rfl hp))
  obtain ⟨rfl, -⟩ := hp
  generalize numC a 1 16 = c at *
  go_wp2_with fail
  go_ret
  exact HP.out
set_option maxRecDepth 100000 in
set_option maxHeartbeats 4000000 in
theorem set_size (a : Bs) (ha : a.length ≤ 65536) (pa pl : Option Addr) (ca nl cl : Nat) (line : Int) (lb b o : Nat) (T : TypeId) (pre post : List Value) (x : Cn) (ho : o = pre.length) (p : Option Addr) (k : Nat) (v1 v2 v3 : Value) (bs : List Bs) (cs : List Cn) (w : World)
    (h : Tgt w b T pre x post) (hK : LdK w lb b pre p k v1 v2 v3 bs cs) (ht : Texts w pa ca [a]) :
    Calls Tryz.prog 115 #[.pointer (some ⟨lb, 0, none⟩), .pointer (some ⟨b, o, none⟩), ndV sSize pa 1 ca false pl nl cl line] w (SetPost b T pre post (numM x a 64 1048576 { x with size := rdV a }) w) := by
  have HO := Lib.hid ho
  obtain ⟨g, og, rfl, hg, hcell⟩ : ∃ g o', pa = some ⟨g, o', none⟩ ∧ g < w.heap.size ∧ w.cell? ⟨g, o', none⟩ = some (.string ⟨a.toArray⟩) := by
    rcases ht.cells with h0 | ⟨g, o', e, hg, hc⟩
    · cases h0
    · exact ⟨g, o', e, hg, hc 0 (by simp)⟩
  have hca := ht.cap
  have HK := Lib.hid hK
  have BA := Lib.hid ((Below.refl w.heap.size w).alloc (Nat.le_refl _) (.cells (ndA sSize (some ⟨g, og, none⟩) 1 ca false pl nl cl line) 57))
  have TA := h.below BA.out
  have KA := Lib.hid (HK.out.below BA.out)
  have yc := (BA.out.cell (p := ⟨g, og, none⟩) hg).trans hcell
  have HA := Lib.hid ha
  unfold ndA at BA TA KA yc
  have hca1 : 1 ≤ ca := hca.1
  unfold ndV
  clear ho ht hK h hcell hca ha hg
  unfold sSize
  unfold sSize at BA TA KA yc
  have c1 := TA.cell HO.out (j := 5) (by omega) rfl
  have f1 := TA.frozen (o + 5)
  have l1 := TA.lt
  have TA := Lib.hid TA
  go_enter Tryz.func115, Tryz.ntmps115
  go_wp2_with fail
  refine (setNumber_calls a HA.out 64 1048576 b (o + 5) _ _ l1 c1 f1).mono ?_
  intro e w1 hp
  obtain ⟨e1, e2⟩ := num_pair x { x with size := rdV a } a 64 1048576
  have HP := Lib.hid (SetPost.up BA.out (num_post (y := { x with size := rdV a }) TA.out HO.out (by omega) rfl hp))
  obtain ⟨rfl, -⟩ := hp
  generalize numC a 64 1048576 = c at *
  go_wp2_with fail
  go_ret
  exact HP.out
set_option maxRecDepth 100000 in
set_option maxHeartbeats 4000000 in
theorem set_kind (a : Bs) (ha : a.length ≤ 65536) (pa pl : Option Addr) (ca nl cl : Nat) (line : Int) (lb b o : Nat) (T : TypeId) (pre post : List Value) (x : Cn) (ho : o = pre.length) (p : Option Addr) (k : Nat) (v1 v2 v3 : Value) (bs : List Bs) (cs : List Cn) (w : World)
    (h : Tgt w b T pre x post) (hK : LdK w lb b pre p k v1 v2 v3 bs cs) (ht : Texts w pa ca [a]) :
    Calls Tryz.prog 115 #[.pointer (some ⟨lb, 0, none⟩), .pointer (some ⟨b, o, none⟩), ndV sKind pa 1 ca false pl nl cl line] w (SetPost b T pre post (kindM x a) w) := by
  have HO := Lib.hid ho
  obtain ⟨g, og, rfl, hg, hcell⟩ : ∃ g o', pa = some ⟨g, o', none⟩ ∧ g < w.heap.size ∧ w.cell? ⟨g, o', none⟩ = some (.string ⟨a.toArray⟩) := by
    rcases ht.cells with h0 | ⟨g, o', e, hg, hc⟩
    · cases h0
    · exact ⟨g, o', e, hg, hc 0 (by simp)⟩
  have hca := ht.cap
  have HK := Lib.hid hK
  have BA := Lib.hid ((Below.refl w.heap.size w).alloc (Nat.le_refl _) (.cells (ndA sKind (some ⟨g, og, none⟩) 1 ca false pl nl cl line) 57))
  have TA := h.below BA.out
  have KA := Lib.hid (HK.out.below BA.out)
  have yc := (BA.out.cell (p := ⟨g, og, none⟩) hg).trans hcell
  have HA := Lib.hid ha
  unfold ndA at BA TA KA yc
  have hca1 : 1 ≤ ca := hca.1
  unfold ndV
  clear ho ht hK h hcell hca ha hg
  unfold sKind
  unfold sKind at BA TA KA yc
  have TA := Lib.hid TA
  go_enter Tryz.func115, Tryz.ntmps115
  go_wp2_with fail
  refine (setKind_calls a b o T pre post x HO.out _ TA.out).mono ?_
  intro e w1 hp
  have HP := Lib.hid (SetPost.up BA.out hp)
  obtain ⟨rfl, -⟩ := hp
  generalize kindM x a = r at *
  go_wp2_with fail
  go_ret
  exact HP.out
set_option maxRecDepth 100000 in
set_option maxHeartbeats 4000000 in
theorem set_init (a : Bs) (ha : a.length ≤ 65536) (pa pl : Option Addr) (ca nl cl : Nat) (line : Int) (lb b o : Nat) (T : TypeId) (pre post : List Value) (x : Cn) (ho : o = pre.length) (p : Option Addr) (k : Nat) (v1 v2 v3 : Value) (bs : List Bs) (cs : List Cn) (w : World)
    (h : Tgt w b T pre x post) (hK : LdK w lb b pre p k v1 v2 v3 bs cs) (ht : Texts w pa ca [a]) :
    Calls Tryz.prog 115 #[.pointer (some ⟨lb, 0, none⟩), .pointer (some ⟨b, o, none⟩), ndV sInit pa 1 ca false pl nl cl line] w (SetPost b T pre post (initM x a) w) := by
  have HO := Lib.hid ho
  obtain ⟨g, og, rfl, hg, hcell⟩ : ∃ g o', pa = some ⟨g, o', none⟩ ∧ g < w.heap.size ∧ w.cell? ⟨g, o', none⟩ = some (.string ⟨a.toArray⟩) := by
    rcases ht.cells with h0 | ⟨g, o', e, hg, hc⟩
    · cases h0
    · exact ⟨g, o', e, hg, hc 0 (by simp)⟩
  have hca := ht.cap
  have HK := Lib.hid hK
  have BA := Lib.hid ((Below.refl w.heap.size w).alloc (Nat.le_refl _) (.cells (ndA sInit (some ⟨g, og, none⟩) 1 ca false pl nl cl line) 57))
  have TA := h.below BA.out
  have KA := Lib.hid (HK.out.below BA.out)
  have yc := (BA.out.cell (p := ⟨g, og, none⟩) hg).trans hcell
  have HA := Lib.hid ha
  unfold ndA at BA TA KA yc
  have hca1 : 1 ≤ ca := hca.1
  unfold ndV
  clear ho ht hK h hcell hca ha hg
  unfold sInit
  unfold sInit at BA TA KA yc
  have TA := Lib.hid TA
  go_enter Tryz.func115, Tryz.ntmps115
  go_wp2_with fail
  refine (setInit_calls a HA.out b o T pre post x HO.out _ TA.out).mono ?_
  intro e w1 hp
  have HP := Lib.hid (SetPost.up BA.out hp)
  obtain ⟨rfl, -⟩ := hp
  generalize initM x a = r at *
  go_wp2_with fail
  go_ret
  exact HP.out
set_option maxRecDepth 100000 in
set_option maxHeartbeats 4000000 in
theorem set_like (a : Bs) (ha : a.length ≤ 65536) (pa pl : Option Addr) (ca nl cl : Nat) (line : Int) (lb b o : Nat) (T : TypeId) (pre post : List Value) (x : Cn) (ho : o = pre.length) (p : Option Addr) (k : Nat) (v1 v2 v3 : Value) (bs : List Bs) (cs : List Cn) (w : World)
    (h : Tgt w b T pre x post) (hK : LdK w lb b pre p k v1 v2 v3 bs cs) (ht : Texts w pa ca [a]) :
    Calls Tryz.prog 115 #[.pointer (some ⟨lb, 0, none⟩), .pointer (some ⟨b, o, none⟩), ndV sLike pa 1 ca false pl nl cl line] w (SetPost b T pre post (likeM cs x a) w) := by
  have HO := Lib.hid ho
  obtain ⟨g, og, rfl, hg, hcell⟩ : ∃ g o', pa = some ⟨g, o', none⟩ ∧ g < w.heap.size ∧ w.cell? ⟨g, o', none⟩ = some (.string ⟨a.toArray⟩) := by
    rcases ht.cells with h0 | ⟨g, o', e, hg, hc⟩
    · cases h0
    · exact ⟨g, o', e, hg, hc 0 (by simp)⟩
  have hca := ht.cap
  have HK := Lib.hid hK
  have BA := Lib.hid ((Below.refl w.heap.size w).alloc (Nat.le_refl _) (.cells (ndA sLike (some ⟨g, og, none⟩) 1 ca false pl nl cl line) 57))
  have TA := h.below BA.out
  have KA := Lib.hid (HK.out.below BA.out)
  have yc := (BA.out.cell (p := ⟨g, og, none⟩) hg).trans hcell
  have HA := Lib.hid ha
  unfold ndA at BA TA KA yc
  have hca1 : 1 ≤ ca := hca.1
  unfold ndV
  clear ho ht hK h hcell hca ha hg
  unfold sLike
  unfold sLike at BA TA KA yc
  have TA := Lib.hid TA
  go_enter Tryz.func115, Tryz.ntmps115
  go_wp2_with fail
  refine (setLike_calls a lb b o T pre post x HO.out p k v1 v2 v3 bs cs _ TA.out KA.out).mono ?_
  intro e w1 hp
  have HP := Lib.hid (SetPost.up BA.out hp)
  obtain ⟨rfl, -⟩ := hp
  generalize likeM cs x a = r at *
  go_wp2_with fail
  go_ret
  exact HP.out
set_option maxRecDepth 100000 in
set_option maxHeartbeats 4000000 in
theorem set_else (key : Bs) (a : Bs) (ha : a.length ≤ 65536) (pa pl : Option Addr) (ca nl cl : Nat) (line : Int) (lb b o : Nat) (T : TypeId) (pre post : List Value) (x : Cn) (ho : o = pre.length) (p : Option Addr) (k : Nat) (v1 v2 v3 : Value) (bs : List Bs) (cs : List Cn) (w : World)
    (h : Tgt w b T pre x post) (hK : LdK w lb b pre p k v1 v2 v3 bs cs) (ht : Texts w pa ca [a])
    (n0 : key ≠ sRetry) (n1 : key ≠ sKind) (n2 : key ≠ sLines) (n3 : key ≠ sBytes) (n4 : key ≠ sGens) (n5 : key ≠ sSize) (n6 : key ≠ sInit) (n7 : key ≠ sLike) :
    Calls Tryz.prog 115 #[.pointer (some ⟨lb, 0, none⟩), .pointer (some ⟨b, o, none⟩), ndV key pa 1 ca false pl nl cl line] w (SetPost b T pre post ((3 : Int), x) w) := by
  have HO := Lib.hid ho
  obtain ⟨g, og, rfl, hg, hcell⟩ : ∃ g o', pa = some ⟨g, o', none⟩ ∧ g < w.heap.size ∧ w.cell? ⟨g, o', none⟩ = some (.string ⟨a.toArray⟩) := by
    rcases ht.cells with h0 | ⟨g, o', e, hg, hc⟩
    · cases h0
    · exact ⟨g, o', e, hg, hc 0 (by simp)⟩
  have hca := ht.cap
  have HK := Lib.hid hK
  have BA := Lib.hid ((Below.refl w.heap.size w).alloc (Nat.le_refl _) (.cells (ndA key (some ⟨g, og, none⟩) 1 ca false pl nl cl line) 57))
  have TA := h.below BA.out
  have KA := Lib.hid (HK.out.below BA.out)
  have yc := (BA.out.cell (p := ⟨g, og, none⟩) hg).trans hcell
  have HA := Lib.hid ha
  have q0 : (key == sRetry) = false := by simpa using n0
  have q1 : (key == sKind) = false := by simpa using n1
  have q2 : (key == sLines) = false := by simpa using n2
  have q3 : (key == sBytes) = false := by simpa using n3
  have q4 : (key == sGens) = false := by simpa using n4
  have q5 : (key == sSize) = false := by simpa using n5
  have q6 : (key == sInit) = false := by simpa using n6
  have q7 : (key == sLike) = false := by simpa using n7
  unfold ndA at BA TA KA yc
  have hca1 : 1 ≤ ca := hca.1
  unfold ndV
  clear ho ht hK h hcell hca ha hg
  unfold sRetry at q0
  unfold sKind at q1
  unfold sLines at q2
  unfold sBytes at q3
  unfold sGens at q4
  unfold sSize at q5
  unfold sInit at q6
  unfold sLike at q7
  clear n0 n1 n2 n3 n4 n5 n6 n7
  go_enter Tryz.func115, Tryz.ntmps115
  go_wp2_with fail
  go_ret
  exact ⟨rfl, Out.ofNew BA.out, fun h => absurd (show (3 : Int) = 0 from h) (by decide)⟩

set_option maxRecDepth 100000 in
set_option maxHeartbeats 4000000 in
theorem set_block (key : Bs) (pa pl : Option Addr) (na ca nl cl : Nat) (line : Int) (lb b o : Nat) (T : TypeId) (pre post : List Value) (x : Cn) (w : World) :
    Calls Tryz.prog 115 #[.pointer (some ⟨lb, 0, none⟩), .pointer (some ⟨b, o, none⟩), ndV key pa na ca true pl nl cl line] w (SetPost b T pre post ((3 : Int), x) w) := by
  unfold ndV
  go_enter Tryz.func115, Tryz.ntmps115
  go_wp2_with fail
  go_ret
  exact ⟨rfl, Out.ofNew ((Below.refl w.heap.size w).alloc (Nat.le_refl _) _), fun h => absurd (show (3 : Int) = 0 from h) (by decide)⟩
set_option maxRecDepth 100000 in
set_option maxHeartbeats 4000000 in
theorem set_few (key : Bs) (hkey : key ≠ sRetry) (pa pl : Option Addr) (na ca nl cl : Nat) (hna : na ≠ 1) (line : Int) (lb b o : Nat) (T : TypeId) (pre post : List Value) (x : Cn) (w : World) :
    Calls Tryz.prog 115 #[.pointer (some ⟨lb, 0, none⟩), .pointer (some ⟨b, o, none⟩), ndV key pa na ca false pl nl cl line] w (SetPost b T pre post ((3 : Int), x) w) := by
  have q0 : (key == sRetry) = false := by simpa using hkey
  have q1 : ((na : Int) != 1) = true := by simp; omega
  unfold sRetry at q0
  clear hkey hna
  unfold ndV
  go_enter Tryz.func115, Tryz.ntmps115
  go_wp2_with fail
  go_ret
  exact ⟨rfl, Out.ofNew ((Below.refl w.heap.size w).alloc (Nat.le_refl _) _), fun h => absurd (show (3 : Int) = 0 from h) (by decide)⟩
set_option maxRecDepth 100000 in
set_option maxHeartbeats 4000000 in
theorem set_retry (ts : List Bs) (n : Nat) (hn : n = ts.length) (pa pl : Option Addr) (ca nl cl : Nat) (line : Int) (lb b o : Nat) (T : TypeId) (pre post : List Value) (x : Cn) (ho : o = pre.length) (w : World) (h : Tgt w b T pre x post)
    (ht : Texts w pa ca ts) (hs : ∀ t ∈ ts, t.length ≤ 65536) (hm : n ≤ 65536) :
    Calls Tryz.prog 115 #[.pointer (some ⟨lb, 0, none⟩), .pointer (some ⟨b, o, none⟩), ndV sRetry pa n ca false pl nl cl line] w (SetPost b T pre post (retryM x ts) w) := by
  have HO := Lib.hid ho
  have BA := Lib.hid ((Below.refl w.heap.size w).alloc (Nat.le_refl _) (.cells (ndA sRetry pa n ca false pl nl cl line) 57))
  have TA := Lib.hid (h.below BA.out)
  have XA := Lib.hid (ht.below BA.out)
  have HS := Lib.hid hs
  have HN := Lib.hid hn
  unfold ndA sRetry at BA TA XA
  unfold ndV sRetry
  clear h ho ht hs hn
  go_enter Tryz.func115, Tryz.ntmps115
  go_wp2_with fail
  refine (setRetry_calls ts n HN.out pa ca b o T pre post x HO.out _ TA.out XA.out HS.out hm).mono ?_
  intro e w1 hp
  have HP := Lib.hid (SetPost.up BA.out hp)
  obtain ⟨rfl, -⟩ := hp
  generalize retryM x ts = r at *
  go_wp2_with fail
  go_ret
  exact HP.out

set_option maxRecDepth 100000 in
theorem set_calls (n : Nd) (hs : ∀ t ∈ n.args, t.length ≤ 65536) (hm : n.args.length ≤ 65536) (pa pl : Option Addr) (ca nl cl : Nat) (lb b o : Nat) (T : TypeId) (pre post : List Value) (x : Cn) (ho : o = pre.length) (p : Option Addr) (k : Nat) (v1 v2 v3 : Value) (bs : List Bs) (cs : List Cn) (w : World)
    (h : Tgt w b T pre x post) (hK : LdK w lb b pre p k v1 v2 v3 bs cs) (ht : Texts w pa ca n.args) :
    Calls Tryz.prog 115 #[.pointer (some ⟨lb, 0, none⟩), .pointer (some ⟨b, o, none⟩), ndV n.key pa n.args.length ca n.block pl nl cl n.line] w (SetPost b T pre post (setM cs x n.key n.args n.block) w) := by
  obtain ⟨key, args, block, list, line⟩ := n
  simp only [Nd.key, Nd.args, Nd.block, Nd.line] at hs hm ht ⊢
  unfold setM
  cases block with
  | true => rw [if_pos rfl]; exact set_block key pa pl _ ca nl cl line lb b o T pre post x w
  | false =>
    rw [if_neg (by simp)]
    by_cases h0 : key = sRetry
    · rw [if_pos h0]; subst h0
      exact set_retry args _ rfl pa pl ca nl cl line lb b o T pre post x ho w h ht hs hm
    · rw [if_neg h0]
      match args, hs, hm, ht with
      | [], _, _, _ => exact set_few key h0 pa pl 0 ca nl cl (by omega) line lb b o T pre post x w
      | a1 :: a2 :: r, _, _, _ => exact set_few key h0 pa pl _ ca nl cl (by simp) line lb b o T pre post x w
      | [a], hs, hm, ht =>
        have ha := hs a (by simp)
        show Calls _ _ _ w (SetPost b T pre post (oneM cs x key a) w)
        unfold oneM
        split
        · rename_i e; subst e; exact set_kind a ha pa pl ca nl cl line lb b o T pre post x ho p k v1 v2 v3 bs cs w h hK ht
        rename_i n1
        split
        · rename_i e; subst e; exact set_lines a ha pa pl ca nl cl line lb b o T pre post x ho p k v1 v2 v3 bs cs w h hK ht
        rename_i n2
        split
        · rename_i e; subst e; exact set_bytes a ha pa pl ca nl cl line lb b o T pre post x ho p k v1 v2 v3 bs cs w h hK ht
        rename_i n3
        split
        · rename_i e; subst e; exact set_gens a ha pa pl ca nl cl line lb b o T pre post x ho p k v1 v2 v3 bs cs w h hK ht
        rename_i n4
        split
        · rename_i e; subst e; exact set_size a ha pa pl ca nl cl line lb b o T pre post x ho p k v1 v2 v3 bs cs w h hK ht
        rename_i n5
        split
        · rename_i e; subst e; exact set_init a ha pa pl ca nl cl line lb b o T pre post x ho p k v1 v2 v3 bs cs w h hK ht
        rename_i n6
        split
        · rename_i e; subst e; exact set_like a ha pa pl ca nl cl line lb b o T pre post x ho p k v1 v2 v3 bs cs w h hK ht
        rename_i n7
        exact set_else key a ha pa pl ca nl cl line lb b o T pre post x ho p k v1 v2 v3 bs cs w h hK ht h0 n1 n2 n3 n4 n5 n6 n7
end Go.Proofs.YtajfdachpdkbcaaGreatDoor.Conf
end

section
namespace Go.Proofs.YtajfdachpdkbcaaGreatDoor.Conf
open Go.RowKit Go.Proofs.YtajfdachpdkbcaaGreatDoor.Own Go.Proofs.YtajfdachpdkbcaaGreatDoor.Rw Go.Proofs.YtajfdachpdkbcaaGreatDoor.Tree
open Go.Proofs.YtajfdachpdkbcaaGreatDoor.Digit (rdV rdC IsTick rd_some rd_none)

/-- an error of a code and a line, in memory -/
def Er (w : World) (v : Value) (c n : Int) : Prop := ∃ g, v = .iface 97 (.pointer (some ⟨g, 0, none⟩)) ∧ faultAt w g c n
theorem Er.out {w w' : World} {S : Nat → Prop} {v : Value} {c n : Int} (h : Er w v c n) (ho : Out S w w') (hS : ∀ g, faultAt w g c n → ¬ S g) : Er w' v c n := by
  obtain ⟨g, e, hf⟩ := h
  exact ⟨g, e, ho.at_ hf (hS g hf)⟩
theorem Er.below {w w' : World} {v : Value} {c n : Int} (h : Er w v c n) (hb : Below w.heap.size w w') : Er w' v c n := by
  obtain ⟨g, e, hf⟩ := h
  exact ⟨g, e, (hb.block g (at_lt hf)).trans hf⟩
set_option maxRecDepth 100000 in
set_option maxHeartbeats 1000000 in
theorem wrong_nil (key : Bs) (pa pl : Option Addr) (na ca nl cl : Nat) (block : Bool) (line : Int) (w : World) :
    Calls Tryz.prog 50 #[ndV key pa na ca block pl nl cl line, .int .i64 0] w fun e w' => e = .returned .nilIface ∧ Below w.heap.size w w' := by
  unfold ndV
  go_enter Tryz.func50, Tryz.ntmps50
  go_wp2_with (go_at_call 77; refine (Flt.new_nil _ _ _).mono ?_; rintro e w' ⟨rfl, rfl⟩)
  go_ret
  exact ⟨rfl, (Below.refl w.heap.size w).alloc (Nat.le_refl _) _⟩
set_option maxRecDepth 100000 in
set_option maxHeartbeats 1000000 in
theorem wrong_some (key : Bs) (pa pl : Option Addr) (na ca nl cl : Nat) (block : Bool) (line c : Int) (hc : c ≠ 0) (w : World) :
    Calls Tryz.prog 50 #[ndV key pa na ca block pl nl cl line, .int .i64 c] w fun e w' => (∃ g, e = .returned (.iface 97 (.pointer (some ⟨g, 0, none⟩))) ∧ faultAt w' g c line ∧ w.heap.size ≤ g) ∧ Below w.heap.size w w' := by
  unfold ndV
  have HC := Lib.hid hc
  clear hc
  go_enter Tryz.func50, Tryz.ntmps50
  go_wp2_with (go_at_call 77; refine (Flt.new_some _ _ _ HC.out _).mono ?_; rintro e w' ⟨rfl, rfl⟩)
  go_ret
  exact ⟨⟨_, rfl, by unfold faultAt; exact at_newk _ _ (by simp), by simp⟩, ((Below.refl w.heap.size w).alloc (Nat.le_refl _) _).alloc (by simp) _⟩

/-- what the settings leave -/
inductive SaPost (b : Nat) (T : TypeId) (pre post : List Value) (w : World) : Rz Cn → Ending → World → Prop
  | bad {v : Value} {c l : Int} {w' : World} (he : Er w' v c l) (ho : Out (fun k => k = b) w w') : SaPost b T pre post w (.bad c l) (.returned v) w'
  | ok {x : Cn} {w' : World} (ho : Out (fun k => k = b) w w') (ht : Tgt w' b T pre x post) : SaPost b T pre post w (.ok x) (.returned .nilIface) w'

/-- a statement's texts are not too long -/
theorem aw_mem {al : List Bs} {a : Bs} (h : a ∈ al) : a.length ≤ aw al := by
  induction al with
  | nil => cases h
  | cons b al ih =>
    rcases List.mem_cons.1 h with rfl | h
    · simp only [aw, List.map_cons, List.sum_cons, one1]; omega
    · have := ih h
      simp only [aw, List.map_cons, List.sum_cons] at this ⊢; omega
theorem wbL_at : ∀ {L : List Nd} {i : Nat} (h : i < L.length), wbN L[i] ≤ wbL L
  | [], _, h => by simp at h
  | x :: L, 0, _ => by rw [wbL_cons]; simp
  | x :: L, i + 1, h => by
    have := wbL_at (L := L) (i := i) (by simpa using h)
    rw [wbL_cons]; simp only [List.getElem_cons_succ]; omega
theorem wb_parts (x : Nd) : (∀ t ∈ x.args, t.length ≤ wbN x) ∧ x.args.length ≤ wbN x ∧ (x.block = true → wbL x.list ≤ wbN x) := by
  rw [wb_open]
  have := aw_len x.args
  exact ⟨fun t ht => by have := aw_mem ht; omega, by omega, fun h => by rw [if_pos h]; omega⟩

def Five (w : World) (g : Nat) (key : Bs) (pa : Option Addr) (na ca : Nat) (block : Bool) (pl : Option Addr) (nl cl : Nat) (line : Int) : Prop :=
  w.cell? ⟨g, 0, none⟩ = some (.string ⟨key.toArray⟩) ∧ w.cell? ⟨g, 0 + 1, none⟩ = some (.slice pa na ca) ∧ w.cell? ⟨g, 0 + 2, none⟩ = some (.bool block) ∧ w.cell? ⟨g, 0 + 3, none⟩ = some (.slice pl nl cl) ∧ w.cell? ⟨g, 0 + 4, none⟩ = some (.int .i64 line)
theorem five_at {w : World} {g : Nat} {key : Bs} {pa pl : Option Addr} {na ca nl cl : Nat} {block : Bool} {line : Int} (h : w.heap[g]? = some (.cells (ndA key pa na ca block pl nl cl line) 57 (0, 0))) : Five w g key pa na ca block pl nl cl line :=
  ⟨at_cell h 0, at_cell h 1, at_cell h 2, at_cell h 3, at_cell h 4⟩
theorem five_out {b : Nat} {w w' : World} {g : Nat} {key : Bs} {pa pl : Option Addr} {na ca nl cl : Nat} {block : Bool} {line : Int} (h : Five w g key pa na ca block pl nl cl line) (hl : g < w.heap.size) (hg : g ≠ b) (ho : Out (fun i => i = b) w w') : Five w' g key pa na ca block pl nl cl line := by
  have k : ∀ j, w'.cell? ⟨g, j, none⟩ = w.cell? ⟨g, j, none⟩ := fun j => ho.cell (p := ⟨g, j, none⟩) hl hg
  unfold Five
  simp only [k]
  exact h
theorem five_below {w w' : World} {g : Nat} {key : Bs} {pa pl : Option Addr} {na ca nl cl : Nat} {block : Bool} {line : Int} (h : Five w g key pa na ca block pl nl cl line) (hl : g < w.heap.size) (hb : Below w.heap.size w w') : Five w' g key pa na ca block pl nl cl line := by
  have k : ∀ j, w'.cell? ⟨g, j, none⟩ = w.cell? ⟨g, j, none⟩ := fun j => hb.cell (p := ⟨g, j, none⟩) hl
  unfold Five
  simp only [k]
  exact h
structure SaAt (b : Nat) (T : TypeId) (pre post : List Value) (cs : List Cn) (L : List Nd) (r : Rz Cn) (w wr : World) (k : Nat) (x : Cn) : Prop where
  out : Out (fun i => i = b) w wr
  tgt : Tgt wr b T pre x post
  left : setsM cs x (L.drop k) = r
theorem SaAt.good {b : Nat} {T : TypeId} {pre post : List Value} {cs : List Cn} {L : List Nd} {r : Rz Cn} {w wr w' : World} {k : Nat} {x : Cn} (h : SaAt b T pre post cs L r w wr k x) (hk : k < L.length) {n : Nd} (hn : L[k] = n)
    (h0 : (setM cs x n.key n.args n.block).1 = 0) (ho : Out (fun i => i = b) wr w') (ht : Tgt w' b T pre (setM cs x n.key n.args n.block).2 post) : SaAt b T pre post cs L r w w' (k + 1) (setM cs x n.key n.args n.block).2 := by
  refine ⟨h.out.trans ho fun _ _ e => e, ht, ?_⟩
  have := h.left
  rw [List.drop_eq_getElem_cons hk, setsM, hn, if_pos h0] at this
  exact this
theorem SaAt.bad {b : Nat} {T : TypeId} {pre post : List Value} {cs : List Cn} {L : List Nd} {r : Rz Cn} {w wr : World} {k : Nat} {x : Cn} (h : SaAt b T pre post cs L r w wr k x) (hk : k < L.length) {n : Nd} (hn : L[k] = n)
    (h0 : (setM cs x n.key n.args n.block).1 ≠ 0) : r = .bad (setM cs x n.key n.args n.block).1 n.line := by
  have := h.left
  rw [List.drop_eq_getElem_cons hk, setsM, hn, if_neg h0] at this
  exact this.symm

set_option maxRecDepth 100000 in
set_option maxHeartbeats 4000000 in
theorem setAll_calls (L : List Nd) (n : Nat) (hn : n = L.length) (hL : wbL L ≤ 65536) (B : Nat) (q : Option Addr) (c : Nat) (lb b o : Nat) (hBb : B ≤ b) (T : TypeId) (pre post : List Value) (x0 : Cn) (ho : o = pre.length) (p : Option Addr) (k0 : Nat) (v1 v2 v3 : Value) (bs : List Bs) (cs : List Cn) (w : World)
    (h : Tgt w b T pre x0 post) (hK : LdK w lb b pre p k0 v1 v2 v3 bs cs) (hN : Nl B w (.slice q n c) L) :
    Calls Tryz.prog 84 #[.pointer (some ⟨lb, 0, none⟩), .pointer (some ⟨b, o, none⟩), .slice q n c] w (SaPost b T pre post w (setsM cs x0 L)) := by
  obtain ⟨r, hr⟩ : ∃ r, setsM cs x0 L = r := ⟨_, rfl⟩
  rw [hr]
  have HO := Lib.hid ho
  have HK := Lib.hid hK
  have HL := Lib.hid hL
  have HNL := Lib.hid hN
  have HN := Lib.hid hn
  have hBw : B ≤ w.heap.size := by have := h.lt; omega
  have HBW := Lib.hid hBw
  have HBb := Lib.hid hBb
  obtain ⟨_, _, hv, hc1, hm1⟩ := hN.shape
  injection hv with e1 z1 e2
  subst e1 e2
  clear z1
  unfold maxLen at hm1
  rw [← hn] at hc1
  have S0 : Hid (SaAt b T pre post cs L r w w 0 x0) := Lib.hid ⟨Out.refl _ _, h, hr⟩
  clear h ho hK hr hL hN hn hBw hBb
  go_enter Tryz.func84, Tryz.ntmps84
  go_wp2_with fail
  go_loopw [12] (fun i wr => ∃ (k : Nat) (x : Cn), k ≤ n ∧ i = .int .i64 k ∧ SaAt b T pre post cs L r w wr k x) (fun i _ => n - (intOf i).toNat)
  case atStart => exact ⟨0, x0, by omega, rfl, S0.out⟩
  case round =>
    obtain ⟨k, x, hk, rfl, C⟩ := hrel
    rename World => wr
    have HC := Lib.hid C
    have hsz := C.out.size
    clear C S0
    rcases Nat.lt_or_eq_of_le hk with hlt | rfl
    · have hl1 : k < L.length := by rw [← HN.out]; exact hlt
      have hb0 : Below B w wr := HC.out.out.below HBW.out fun i e => by have := HBb.out; omega
      have hNr := HNL.out.keep hb0
      obtain ⟨g, pa, ca, pl, cl, rfl, hgB, hg, ⟨c0, c1, c2, c3, c4⟩, hnd⟩ := hNr.at_ hl1
      have q1 : (k : Int) < (n : Int) := by omega
      have hw := wbL_at hl1
      obtain ⟨p1, p2, p3⟩ := wb_parts L[k]
      have hLL := HL.out
      have HGO := Lib.hid fun (w' : World) h0 ho ht => HC.out.good (w' := w') hl1 rfl h0 ho ht
      have HBD := Lib.hid fun h0 => HC.out.bad hl1 rfl h0
      have HS := Lib.hid (set_calls L[k] (fun t ht => by have := p1 t ht; omega) (by omega) pa pl ca L[k].list.length cl lb b o T pre post x HO.out p k0 v1 v2 v3 bs cs)
      have hKr := HK.out.keep HC.out.out HC.out.tgt
      have hTr := HC.out.tgt
      have htx := hnd.args.tx
      generalize L[k] = m at *
      have HA1 := Lib.hid fun (w' : World) (hb : Below wr.heap.size wr w') => HS.out w' (hTr.below hb) (hKr.below hb) (htx.below hb)
      have HNK := Lib.hid (at_new wr (.cells (ndA m.key pa m.args.length ca m.block pl m.list.length cl m.line) 57))
      have HBK := Lib.hid ((Below.refl wr.heap.size wr).alloc (Nat.le_refl _) (.cells (ndA m.key pa m.args.length ca m.block pl m.list.length cl m.line) 57))
      have hbl : b < wr.heap.size := hTr.lt
      unfold ndV at HA1
      unfold ndA at HNK HBK
      clear hNr hnd p1 p2 p3 hLL hw hTr hKr htx HS hl1 hb0 hgB
      generalize hsm : setM cs x m.key m.args m.block = sm at *
      obtain ⟨key, args, block, list, line⟩ := m
      simp only [Nd.key, Nd.args, Nd.block, Nd.list, Nd.line] at *
      generalize args.length = na at *
      generalize list.length = nl at *
      clear hsm
      go_wp2_with fail
      obtain ⟨W, hW⟩ : ∃ W, W = wr.alloc (.cells #[.string ⟨key.toArray⟩, .slice pa na ca, .bool block, .slice pl nl cl, .int .i64 line] 57) := ⟨_, rfl⟩
      rw [← hW] at HNK HBK ⊢
      clear hW
      have hlW := at_lt HNK.out
      have hzW := HBK.out.size
      have x5 := Lib.hid (five_at HNK.out)
      unfold Five at x5
      obtain ⟨x0, x1, x2, x3, x4⟩ := x5.out
      generalize hg8 : wr.heap.size = g8 at *
      have hb8 : g8 ≠ b := by omega
      have hbW : b < W.heap.size := by omega
      by_cases hc : sm.1 = 0
      · have HGO2 := Lib.hid fun (w' : World) ho ht => HGO.out w' hc ho ht
        obtain ⟨c0, x'⟩ := sm
        obtain rfl : c0 = 0 := hc
        clear HGO HBD
        go_region_held3 (fun w' => w'.cell? ⟨g8, 0, none⟩ = some (.string ⟨key.toArray⟩) ∧ w'.cell? ⟨g8, 0 + 1, none⟩ = some (.slice pa na ca) ∧ w'.cell? ⟨g8, 0 + 2, none⟩ = some (.bool block) ∧ w'.cell? ⟨g8, 0 + 3, none⟩ = some (.slice pl nl cl) ∧ w'.cell? ⟨g8, 0 + 4, none⟩ = some (.int .i64 line) ∧ w'.cell? ⟨g8, 0, none⟩ = some (.string ⟨key.toArray⟩) ∧ w'.cell? ⟨g8, 0 + 1, none⟩ = some (.slice pa na ca) ∧ w'.cell? ⟨g8, 0 + 2, none⟩ = some (.bool block) ∧ w'.cell? ⟨g8, 0 + 3, none⟩ = some (.slice pl nl cl) ∧ w'.cell? ⟨g8, 0 + 4, none⟩ = some (.int .i64 line))
          (first
            | exact ⟨x0, x1, x2, x3, x4, x0, x1, x2, x3, x4⟩
            | exact ⟨y5.out.1, y5.out.2.1, y5.out.2.2.1, y5.out.2.2.2.1, y5.out.2.2.2.2, y5.out⟩
            | exact ⟨y6.out.1, y6.out.2.1, y6.out.2.2.1, y6.out.2.2.2.1, y6.out.2.2.2.2, y6.out⟩)
          (first
            | (go_at_call 115; refine (HA1.out _ (by first | exact HBK.out | exact HBK.out.drew | exact below_drew HBK.out)).mono ?_; rintro e w5 ⟨rfl, ho5, ht5⟩; have O5 : Hid (Out (fun i => i = b) W w5) := Lib.hid ⟨ho5.os, ho5.tape, ho5.output, ho5.size, ho5.block⟩; have y5 := Lib.hid (five_out (five_at HNK.out) hlW hb8 O5.out); have T5 := Lib.hid (ht5 rfl))
            | (go_at_call 50; refine (wrong_nil _ _ _ _ _ _ _ _ _ _).mono ?_; rintro e w6 ⟨rfl, hb6⟩; replace hb6 : Below w5.heap.size w5 w6 := ⟨hb6.os, hb6.tape, hb6.output, hb6.size, hb6.block⟩; have y6 := Lib.hid (five_below y5.out (at_lt (O5.out.at_ HNK.out hb8)) hb6)))
        all_goals
          have C1 := Lib.hid (HGO2.out w6 (((Out.ofBelow (S := fun i => i = b) HBK.out fun i hi _ => by omega).trans O5.out fun _ _ e => e).trans (Out.ofNew (S := fun i => i = b) hb6) fun _ _ e => e) (T5.out.below hb6))
          clear HGO2 HA1 x0 x1 x2 x3 x4 x5 c0 c1 c2 c3 c4 hb6
          clear y6
          clear hb8 hbW hlW hzW hbl hg
          go_wp2_with fail
          go_roundw
          case rel => exact ⟨k + 1, x', by omega, by go_num, C1.out⟩
          case measure => simp [intOf]; omega
      · have HR := Lib.hid (HBD.out hc)
        obtain ⟨cd, x'⟩ := sm
        have HCN : Hid (cd ≠ 0) := Lib.hid hc
        clear HGO HBD hc
        go_region_held3 (fun w' => w'.cell? ⟨g8, 0, none⟩ = some (.string ⟨key.toArray⟩) ∧ w'.cell? ⟨g8, 0 + 1, none⟩ = some (.slice pa na ca) ∧ w'.cell? ⟨g8, 0 + 2, none⟩ = some (.bool block) ∧ w'.cell? ⟨g8, 0 + 3, none⟩ = some (.slice pl nl cl) ∧ w'.cell? ⟨g8, 0 + 4, none⟩ = some (.int .i64 line) ∧ w'.cell? ⟨g8, 0, none⟩ = some (.string ⟨key.toArray⟩) ∧ w'.cell? ⟨g8, 0 + 1, none⟩ = some (.slice pa na ca) ∧ w'.cell? ⟨g8, 0 + 2, none⟩ = some (.bool block) ∧ w'.cell? ⟨g8, 0 + 3, none⟩ = some (.slice pl nl cl) ∧ w'.cell? ⟨g8, 0 + 4, none⟩ = some (.int .i64 line))
          (first
            | exact ⟨x0, x1, x2, x3, x4, x0, x1, x2, x3, x4⟩
            | exact ⟨y5.out.1, y5.out.2.1, y5.out.2.2.1, y5.out.2.2.2.1, y5.out.2.2.2.2, y5.out⟩
            | exact ⟨y6.out.1, y6.out.2.1, y6.out.2.2.1, y6.out.2.2.2.1, y6.out.2.2.2.2, y6.out⟩)
          (first
            | (go_at_call 115; refine (HA1.out _ (by first | exact HBK.out | exact HBK.out.drew | exact below_drew HBK.out)).mono ?_; rintro e w5 ⟨rfl, ho5, ht5⟩; have O5 : Hid (Out (fun i => i = b) W w5) := Lib.hid ⟨ho5.os, ho5.tape, ho5.output, ho5.size, ho5.block⟩; have y5 := Lib.hid (five_out (five_at HNK.out) hlW hb8 O5.out); skip)
            | (go_at_call 50; refine (wrong_some _ _ _ _ _ _ _ _ _ _ HCN.out _).mono ?_; rintro e w6 ⟨⟨gf, rfl, hf, hfg⟩, hb6⟩; replace hb6 : Below w5.heap.size w5 w6 := ⟨hb6.os, hb6.tape, hb6.output, hb6.size, hb6.block⟩; have y6 := Lib.hid (five_below y5.out (at_lt (O5.out.at_ HNK.out hb8)) hb6)))
        all_goals
          have E6 := Lib.hid (show Er w6 (.iface 97 (.pointer (some ⟨gf, 0, none⟩))) cd line from ⟨gf, rfl, hf⟩)
          have O6 := Lib.hid ((HC.out.out.trans (((Out.ofBelow (S := fun i => i = b) HBK.out fun i hi _ => by omega).trans O5.out fun _ _ e => e).trans (Out.ofNew (S := fun i => i = b) hb6) fun _ _ e => e) fun _ _ e => e))
          clear HA1 x0 x1 x2 x3 x4 x5 c0 c1 c2 c3 c4 hb6 hf hfg
          clear y6
          clear hb8 hbW hlW hzW hbl hg
          go_wp2_with fail
          go_ret
          rw [HR.out]
          exact SaPost.bad E6.out O6.out
    · have HR := Lib.hid (show r = .ok x by
        have := HC.out.left
        rw [List.drop_eq_nil_of_le (by have := HN.out; omega)] at this
        exact this.symm)
      go_wp2_with fail
      go_ret
      rw [HR.out]
      exact SaPost.ok HC.out.out HC.out.tgt
end Go.Proofs.YtajfdachpdkbcaaGreatDoor.Conf
end

section
namespace Go.Proofs.YtajfdachpdkbcaaGreatDoor.KM
open Go.Maps (Keyed)
open Go.MapKept Go.ChangeMaps Go.Proofs.YtajfdachpdkbcaaGreatDoor.Own

section
variable {α : Type} {P : Program} {k t e : TypeId} {kv : α → Value} {w : World} {b n : Nat} {f : α → Option Value}

structure KMap (P : Program) (k : TypeId) (kv : α → Value) (w : World) (b : Nat) (f : α → Option Value) (n : Nat) : Prop where
  is : ∃ es clock, w.heap[b]? = some (.map es clock) ∧ es.size = n ∧ Stamped es clock ∧ (∀ x ∈ es.toList, ∃ l, keyOf P k x.key = some l) ∧
    (∀ x ∈ es.toList, ∃ a, x.key = kv a ∧ f a = some x.val) ∧ ∀ a v, f a = some v → ∃ x ∈ es.toList, x.key = kv a ∧ x.val = v

theorem KMap.made (w : World) : KMap P k kv (w.alloc (.map #[] 0)) w.heap.size (fun _ => none) 0 :=
  ⟨#[], 0, at_new w _, rfl, stamped_empty 0, by simp, by simp, fun a v h => nomatch h⟩
theorem KMap.kept {w' : World} (h : KMap P k kv w b f n) (hb : w'.heap[b]? = w.heap[b]?) : KMap P k kv w' b f n := by
  obtain ⟨es, clock, h1, r⟩ := h.is
  exact ⟨es, clock, hb.trans h1, r⟩
theorem KMap.lt (h : KMap P k kv w b f n) : b < w.heap.size := by
  obtain ⟨es, clock, h1, r⟩ := h.is
  exact at_lt h1
theorem KMap.cong {f' : α → Option Value} {n' : Nat} (h : KMap P k kv w b f n) (hf : ∀ a, f a = f' a) (hn : n = n') : KMap P k kv w b f' n' := by
  have : f = f' := funext hf
  subst this hn; exact h

theorem apart {es : Array MapEntry} {clock : Nat} (h : Stamped es clock) {i j : Nat} {x y : MapEntry} (hi : es.toList[i]? = some x) (hj : es.toList[j]? = some y) (hk : x.key = y.key) : i = j := by
  have hn := h.2.2
  have li := (List.getElem?_eq_some_iff.1 hi).1
  have lj := (List.getElem?_eq_some_iff.1 hj).1
  have e1 : (es.toList.map (·.key))[i]? = some x.key := by simp only [List.getElem?_map, hi, Option.map_some]
  have e2 : (es.toList.map (·.key))[j]? = some x.key := by simp only [List.getElem?_map, hj, Option.map_some, hk]
  exact (List.getElem?_inj (by simpa using li) hn).1 (e1.trans e2.symm)

/-- what is at the key -/
theorem KMap.found (h : KMap P k kv w b f n) (K : Keyed P k) {a : α} {l : Lit} (hkey : keyOf P k (kv a) = some l) (hinj : ∀ c, kv c = kv a → c = a) :
    ∃ es clock, w.heap[b]? = some (.map es clock) ∧ ((f a = none ∧ (Instr.findKey k (kv a) es.toList).run P w = .ok none w ∧ ∀ x ∈ es.toList, x.key ≠ kv a) ∨
      ∃ j x, f a = some x.val ∧ (Instr.findKey k (kv a) es.toList).run P w = .ok (some (j, x.val)) w ∧ es.toList[j]? = some x ∧ x.key = kv a) := by
  obtain ⟨es, clock, hb, hn, hst, hks, h1, h2⟩ := h.is
  refine ⟨es, clock, hb, ?_⟩
  rcases K.find w hkey es.toList hks with ⟨r1, r2⟩ | ⟨j, x, r1, r2, r3⟩
  · refine .inl ⟨?_, r1, r2⟩
    cases hf : f a with
    | none => rfl
    | some v =>
      obtain ⟨x, hx, hk, _⟩ := h2 a v hf
      exact absurd hk (r2 x hx)
  · refine .inr ⟨j, x, ?_, r1, r2, r3⟩
    obtain ⟨c, hc, hv⟩ := h1 x (List.mem_of_getElem? r2)
    rw [hinj c (hc.symm.trans r3)] at hv
    exact hv

theorem KMap.look (c : Bool) (h : KMap P k kv w b f n) (K : Keyed P k) (ht : P.underlying t = some (.map k e)) {z : Value} (hz : (zeroValue e).run P w = .ok z w)
    {a : α} {l : Lit} (hkey : keyOf P k (kv a) = some l) (hinj : ∀ c, kv c = kv a → c = a) :
    (Instr.lookup t (.map (some b)) (kv a) c).run P w = .ok (if c then .tuple #[(f a).getD z, .bool (f a).isSome] else (f a).getD z) w := by
  obtain ⟨es, clock, hb, ⟨h0, h1, _⟩ | ⟨j, x, h0, h1, _⟩⟩ := h.found K hkey hinj
  · simp [Instr.lookup, run_underlying ht, MapKept.run_getObj_map hb, K.check w _ hkey, h1, hz, h0, Result.andThen]
  · simp [Instr.lookup, run_underlying ht, MapKept.run_getObj_map hb, K.check w _ hkey, h1, h0, Result.andThen]

theorem KMap.len (h : KMap P k kv w b f n) (ht : P.underlying t = some (.map k e)) (ty : TypeId) : (Builtin.len_ #[t] ty #[.map (some b)]).run P w = .ok (.int .i64 n) w := by
  obtain ⟨es, clock, hb, hn, _⟩ := h.is
  simp [Builtin.len_, run_underlying ht, MapKept.run_getObj_map hb, goInt, hn, Result.andThen]

/-- only block b has turned -/
theorem out_block (w : World) (b : Nat) (o : Obj) : Out (fun i => i = b) w (setBlock w b o) :=
  ⟨rfl, rfl, rfl, by simp [setBlock], fun i _ hi => by simp [setBlock, Ne.symm hi]⟩

section
variable [DecidableEq α]
def put (f : α → Option Value) (a : α) (v : Value) : α → Option Value := fun c => if c = a then some v else f c
def del (f : α → Option Value) (a : α) : α → Option Value := fun c => if c = a then none else f c

theorem KMap.store (h : KMap P k kv w b f n) (K : Keyed P k) (ht : P.underlying t = some (.map k e)) {a : α} {l : Lit} (hkey : keyOf P k (kv a) = some l) (hinj : ∀ c, kv c = kv a → c = a) (v : Value) :
    ∃ w', (Instr.mapUpdate t (.map (some b)) (kv a) v).run P w = .ok () w' ∧ KMap P k kv w' b (put f a v) (if (f a).isSome then n else n + 1) ∧ Out (fun i => i = b) w w' := by
  have hfd := h.found K hkey hinj
  obtain ⟨es, clock, hb, hn, hst, hks, h1, h2⟩ := h.is
  obtain ⟨es', clock', hb', hcase⟩ := hfd
  cases hb.symm.trans hb'
  rcases hcase with ⟨h0, r1, r2⟩ | ⟨j, x0, h0, r1, r2, r3⟩
  · refine ⟨setBlock w b (.map (es.push ⟨kv a, v, clock⟩) (clock + 1)), ?_, ⟨_, _, heap_setBlock_same hb _, ?_, stamped_push hst r2, ?_, ?_, ?_⟩, out_block w b _⟩
    · simp [Instr.mapUpdate, run_underlying ht, MapKept.run_getObj_map hb, K.check w false hkey, r1, MapKept.run_setObj_map _ hb, Result.andThen, setBlock]
    · simp [h0, hn]
    · intro x hx
      simp only [Array.toList_push, List.mem_append, List.mem_singleton] at hx
      rcases hx with hx | rfl
      · exact hks x hx
      · exact ⟨l, hkey⟩
    · intro x hx
      simp only [Array.toList_push, List.mem_append, List.mem_singleton] at hx
      rcases hx with hx | rfl
      · obtain ⟨c, hc, hv⟩ := h1 x hx
        have hne : c ≠ a := fun e => r2 x hx (by rw [hc, e])
        exact ⟨c, hc, by simp [put, hne, hv]⟩
      · exact ⟨a, rfl, by simp [put]⟩
    · intro c u hu
      simp only [Array.toList_push, List.mem_append, List.mem_singleton]
      by_cases hc : c = a
      · subst hc
        simp [put] at hu
        exact ⟨_, .inr rfl, rfl, hu⟩
      · simp [put, hc] at hu
        obtain ⟨x, hx, r⟩ := h2 c u hu
        exact ⟨x, .inl hx, r⟩
  · have hj : es[j]? = some x0 := by simpa using r2
    have hjl : j < es.toList.length := (List.getElem?_eq_some_iff.1 r2).1
    have hkeyf : ∀ e', es[j]? = some e' → ({ e' with key := kv a, val := v } : MapEntry).key = e'.key := fun e' he' => by rw [hj] at he'; cases he'; exact r3.symm
    have hlist : (es.modify j (fun e' => { e' with key := kv a, val := v })).toList = es.toList.set j { x0 with key := kv a, val := v } := by rw [Array.toList_modify, modify_eq_set _ _ _ _ r2]
    have who : ∀ x ∈ es.toList.set j { x0 with key := kv a, val := v }, x = { x0 with key := kv a, val := v } ∨ (x ∈ es.toList ∧ x.key ≠ kv a) := by
      intro x hx
      obtain ⟨i, hi, ex⟩ := List.getElem_of_mem hx
      rw [List.getElem_set] at ex
      split at ex
      · exact Or.inl ex.symm
      · rename_i hne
        have hi' : i < es.toList.length := by simpa using hi
        refine Or.inr ⟨ex ▸ List.getElem_mem hi', fun hk => hne ?_⟩
        exact (apart hst (i := i) (j := j) (by rw [List.getElem?_eq_getElem hi', ex]) r2 (hk.trans r3.symm)).symm
    refine ⟨setBlock w b (.map (es.modify j (fun e' => { e' with key := kv a, val := v })) clock), ?_, ⟨_, _, heap_setBlock_same hb _, ?_, stamped_modify hst _ _ (fun _ _ => rfl) (fun e' _ he' => hkeyf e' he'), ?_, ?_, ?_⟩, out_block w b _⟩
    · simp [Instr.mapUpdate, run_underlying ht, MapKept.run_getObj_map hb, K.check w false hkey, r1, hj, r3, K.stays w hkey, MapKept.run_setObj_map _ hb, Result.andThen, setBlock]
    · simp [h0, hn]
    · intro x hx
      rw [hlist] at hx
      rcases who x hx with rfl | ⟨hx', _⟩
      · exact ⟨l, hkey⟩
      · exact hks x hx'
    · intro x hx
      rw [hlist] at hx
      rcases who x hx with rfl | ⟨hx', hne⟩
      · exact ⟨a, rfl, by simp [put]⟩
      · obtain ⟨c, hc, hv⟩ := h1 x hx'
        have hca : c ≠ a := fun e => hne (by rw [hc, e])
        exact ⟨c, hc, by simp [put, hca, hv]⟩
    · intro c u hu
      rw [hlist]
      by_cases hc : c = a
      · subst hc
        simp [put] at hu
        exact ⟨{ x0 with key := kv c, val := v }, List.mem_iff_getElem.2 ⟨j, by simpa using hjl, by simp⟩, rfl, hu⟩
      · simp [put, hc] at hu
        obtain ⟨x, hx, hk, hv⟩ := h2 c u hu
        obtain ⟨i, hi, ex⟩ := List.getElem_of_mem hx
        have hij : j ≠ i := fun e => by
          subst e
          rw [List.getElem?_eq_getElem hi] at r2
          cases r2
          rw [ex, hk] at r3
          exact hc (hinj c r3)
        exact ⟨x, List.mem_iff_getElem.2 ⟨i, by simpa using hi, by rw [List.getElem_set_ne hij]; exact ex⟩, hk, hv⟩

theorem KMap.drop (h : KMap P k kv w b f n) (K : Keyed P k) (ht : P.underlying t = some (.map k e)) {a : α} {l : Lit} (hkey : keyOf P k (kv a) = some l) (hinj : ∀ c, kv c = kv a → c = a) (ty : TypeId) :
    ∃ w', (Builtin.delete_ #[t, k] ty #[.map (some b), kv a]).run P w = .ok (.tuple #[]) w' ∧ KMap P k kv w' b (del f a) (if (f a).isSome then n - 1 else n) ∧ Out (fun i => i = b) w w' := by
  have hfd := h.found K hkey hinj
  obtain ⟨es, clock, hb, hn, hst, hks, h1, h2⟩ := h.is
  obtain ⟨es', clock', hb', hcase⟩ := hfd
  cases hb.symm.trans hb'
  rcases hcase with ⟨h0, r1, r2⟩ | ⟨j, x0, h0, r1, r2, r3⟩
  · refine ⟨setBlock w b (.map es clock), ?_, ⟨_, _, heap_setBlock_same hb _, ?_, hst, hks, ?_, ?_⟩, out_block w b _⟩
    · simp [Builtin.delete_, run_underlying ht, MapKept.run_getObj_map hb, K.check w _ hkey, r1, MapKept.run_setObj_map _ hb, Result.andThen, setBlock]
    · simp [h0, hn]
    · intro x hx
      obtain ⟨c, hc, hv⟩ := h1 x hx
      have hne : c ≠ a := fun e => r2 x hx (by rw [hc, e])
      exact ⟨c, hc, by simp [del, hne, hv]⟩
    · intro c u hu
      by_cases hc : c = a
      · simp [del, hc] at hu
      · simp [del, hc] at hu
        exact h2 c u hu
  · have hjl : j < es.toList.length := (List.getElem?_eq_some_iff.1 r2).1
    have hjs : j < es.size := by simpa using hjl
    have hsub : (es.eraseIdxIfInBounds j).toList = es.toList.eraseIdx j := by
      unfold Array.eraseIdxIfInBounds
      rw [dif_pos hjs]
      simp
    refine ⟨setBlock w b (.map (es.eraseIdxIfInBounds j) clock), ?_, ⟨_, _, heap_setBlock_same hb _, ?_, stamped_erase hst j, ?_, ?_, ?_⟩, out_block w b _⟩
    · simp [Builtin.delete_, run_underlying ht, MapKept.run_getObj_map hb, K.check w _ hkey, r1, MapKept.run_setObj_map _ hb, Result.andThen, setBlock]
    · have hsz := congrArg List.length hsub
      rw [List.length_eraseIdx_of_lt hjl, Array.length_toList, Array.length_toList] at hsz
      simp only [h0, Option.isSome_some, if_true]
      omega
    · intro x hx
      rw [hsub] at hx
      exact hks x ((List.eraseIdx_sublist _ _).subset hx)
    · intro x hx
      rw [hsub] at hx
      obtain ⟨i, hne, hi⟩ := List.mem_eraseIdx_iff_getElem?.1 hx
      obtain ⟨c, hc, hv⟩ := h1 x (List.mem_of_getElem? hi)
      have hca : c ≠ a := fun e => hne (apart hst hi r2 (by rw [hc, e, r3]))
      exact ⟨c, hc, by simp [del, hca, hv]⟩
    · intro c u hu
      by_cases hc : c = a
      · simp [del, hc] at hu
      · simp [del, hc] at hu
        obtain ⟨x, hx, hk, hv⟩ := h2 c u hu
        obtain ⟨i, hi, ex⟩ := List.getElem_of_mem hx
        refine ⟨x, ?_, hk, hv⟩
        rw [hsub]
        refine List.mem_eraseIdx_iff_getElem?.2 ⟨i, fun e => ?_, by rw [List.getElem?_eq_getElem hi, ex]⟩
        subst e
        rw [List.getElem?_eq_getElem hi] at r2
        cases r2
        rw [ex, hk] at r3
        exact hc (hinj c r3)

/-! ### at the operation, for the walk -/
section
variable {ops : Array Oper} {rest : List Oper} {o : Oper} {act : Act} {Q : Exit → Act → World → Prop}

/-- 'm[a] = v' -/
theorem wp_store (hg : o.guard = none) (m x v : Operand) (t : TypeId) (hop : o.op = Op.mapUpdate t m x v) (k e : TypeId) (K : Keyed P k) (ht : P.underlying t = some (.map k e)) (b n : Nat) (f : α → Option Value)
    (hm : act.eval m = .map (some b)) (h : KMap P k kv w b f n) (a : α) (hx : act.eval x = kv a) (val : Value) (hv : act.eval v = val) {l : Lit} (hkey : keyOf P k (kv a) = some l) (hinj : ∀ c, kv c = kv a → c = a)
    (hK : ∀ w', KMap P k kv w' b (put f a val) (if (f a).isSome then n else n + 1) → Out (fun i => i = b) w w' → wpList P ops Q rest (act.put o.dst undef) w') : wpList P ops Q (o :: rest) act w := by
  refine wpList_plain hg fun K' hK' => ?_
  obtain ⟨w', hrun, r1, r2⟩ := h.store K ht hkey hinj val
  unfold Oper.wp
  simp [execOp, hop, hm, hx, hv, hrun, Result.andThen]
  exact hK' _ _ (hK w' r1 r2)

/-- 'delete(m, a)' -/
theorem wp_drop (hg : o.guard = none) (m x : Operand) (t k : TypeId) (hop : o.op = Op.call { callee := Callee.builtin Builtin.delete, args := #[m, x], argTypes := #[t, k] }) (e : TypeId) (K : Keyed P k) (ht : P.underlying t = some (.map k e)) (b n : Nat) (f : α → Option Value)
    (hm : act.eval m = .map (some b)) (h : KMap P k kv w b f n) (a : α) (hx : act.eval x = kv a) {l : Lit} (hkey : keyOf P k (kv a) = some l) (hinj : ∀ c, kv c = kv a → c = a)
    (hK : ∀ w', KMap P k kv w' b (del f a) (if (f a).isSome then n - 1 else n) → Out (fun i => i = b) w w' → wpList P ops Q rest (act.put o.dst (.tuple #[])) w') : wpList P ops Q (o :: rest) act w := by
  refine wpList_plain hg fun K' hK' => ?_
  obtain ⟨w', hrun, r1, r2⟩ := h.drop K ht hkey hinj o.type
  unfold Oper.wp
  simp [execOp, hop, resolve, invoke, builtin, hm, hx, hrun, Result.andThen]
  exact hK' _ _ (hK w' r1 r2)

omit [DecidableEq α] in
/-- 'len(m)' -/
theorem wp_len (hg : o.guard = none) (m : Operand) (t : TypeId) (hop : o.op = Op.call { callee := Callee.builtin Builtin.len, args := #[m], argTypes := #[t] }) (k e : TypeId) (ht : P.underlying t = some (.map k e)) (b n : Nat) (f : α → Option Value)
    (hm : act.eval m = .map (some b)) (h : KMap P k kv w b f n) (hK : wpList P ops Q rest (act.put o.dst (.int .i64 n)) w) : wpList P ops Q (o :: rest) act w := by
  refine wpList_plain hg fun K' hK' => ?_
  unfold Oper.wp
  simp [execOp, hop, resolve, invoke, builtin, hm, h.len ht o.type, Result.andThen]
  exact hK' _ _ hK

omit [DecidableEq α] in
/-- 'v, ok := m[a]', 'm[a]' -/
theorem wp_look (hg : o.guard = none) (m x : Operand) (t : TypeId) (c : Bool) (hop : o.op = Op.lookup t m x c) (k e : TypeId) (K : Keyed P k) (ht : P.underlying t = some (.map k e)) (z : Value) (hz : ∀ w, (zeroValue e).run P w = .ok z w) (b n : Nat) (f : α → Option Value)
    (hm : act.eval m = .map (some b)) (h : KMap P k kv w b f n) (a : α) (hx : act.eval x = kv a) {l : Lit} (hkey : keyOf P k (kv a) = some l) (hinj : ∀ c, kv c = kv a → c = a)
    (hK : wpList P ops Q rest (act.put o.dst (if c then .tuple #[(f a).getD z, .bool (f a).isSome] else (f a).getD z)) w) : wpList P ops Q (o :: rest) act w := by
  refine wpList_plain hg fun K' hK' => ?_
  unfold Oper.wp
  simp [execOp, hop, hm, hx, h.look c K ht (hz w) hkey hinj, Result.andThen]
  exact hK' _ _ hK
end

/-- numbers as keys -/
def ik (a : Int) : Value := .int .i64 a
theorem ik_inj (a : Int) : ∀ c, ik c = ik a → c = a := by intro c h; cases h; rfl
theorem ik_key {k : TypeId} (hk : P.underlying k = some (.int .i64)) {a : Int} (h : -9223372036854775808 ≤ a ∧ a ≤ 9223372036854775807) : keyOf P k (ik a) = some (.int .i64 a) :=
  Maps.keyOf_int_mk hk (by simp [Lit.wf, IntKind.min, IntKind.max, IntKind.signed, IntKind.bits]; omega)
end
end
end Go.Proofs.YtajfdachpdkbcaaGreatDoor.KM
end

section
namespace Go.Proofs.YtajfdachpdkbcaaGreatDoor.Conf
open Go.RowKit Go.Proofs.YtajfdachpdkbcaaGreatDoor.Own Go.Proofs.YtajfdachpdkbcaaGreatDoor.Rw Go.Proofs.YtajfdachpdkbcaaGreatDoor.Tree Go.Proofs.YtajfdachpdkbcaaGreatDoor.KM

abbrev Nm := Bs × Bs
def nmv (a : Nm) : Value := .agg #[.string ⟨a.1.toArray⟩, .string ⟨a.2.toArray⟩]
theorem nmv_inj (a : Nm) : ∀ c, nmv c = nmv a → c = a := by
  intro c h
  unfold nmv at h
  simp only [Value.agg.injEq] at h
  have h1 := congrArg (fun x : Array Value => x.toList) h
  simp at h1
  exact Prod.ext h1.1 h1.2
theorem laidOut : laidOutB Tryz.prog = true := by kernel_rfl
theorem nm_row : (198 : TypeId) < Tryz.prog.types.size := of_decide_eq_true (by kernel_rfl)
theorem nm_wide : (match Tryz.prog.underlying 198 with | some (.array _ _) | some (.struct _) => true | _ => false) = true := by rw [Tryz.underlying198]
set_option maxRecDepth 100000 in
theorem nm_law : WideMaps.KeyLaw Tryz.prog 198 := deep_law_laid laidOut (m := 2) (by omega) nm_row (by kernel_rfl) nm_wide
theorem keyed : Maps.Keyed Tryz.prog 198 := Maps.Keyed.of_law nm_law
theorem nm_deep : Tryz.prog.keyType 198 = true := by kernel_rfl
theorem nm_cells : Tryz.prog.cellsOf 198 = 2 := by kernel_rfl
theorem str_cells : Tryz.prog.cellsOf 9 = 1 := by kernel_rfl
theorem types_pos : ∃ m, Tryz.prog.types.size = m + 1 := ⟨Tryz.prog.types.size - 1, by have h : (198 : Nat) < Tryz.prog.types.size := nm_row; omega⟩
theorem nm_key {a : Nm} (h1 : a.1.length ≤ 1000000) (h2 : a.2.length ≤ 1000000) : ∃ l, keyOf Tryz.prog 198 (nmv a) = some l := by
  have hf : (nmv a).formed Tryz.prog 198 = true := by simp [nmv, Value.formed, Tryz.underlying198, nm_cells]
  obtain ⟨m, hm⟩ := types_pos
  have s1 : ∀ t : Bs, t.length ≤ 1000000 → Tryz.prog.keyLits (m + 1) 9 [.string ⟨t.toArray⟩] = some [.string t] := by
    intro t ht
    unfold Program.keyLits
    rw [Tryz.underlying9]
    have : (⟨t.toArray⟩ : ByteArray).size ≤ maxLen := by
      have : (⟨t.toArray⟩ : ByteArray).size = t.length := List.size_toArray ..
      unfold maxLen; omega
    simp only [if_pos this]
  have hl : Tryz.prog.keyLits (Tryz.prog.types.size + 1) 198 (nmv a).cells.toList = some [.string a.1, .string a.2] := by
    rw [hm]
    unfold Program.keyLits
    rw [Tryz.underlying198]
    simp [nmv, Value.cells, nm_cells, str_cells, s1 a.1 h1, s1 a.2 h2]
  refine ⟨.string (keyBytes [.string a.1, .string a.2]), ?_⟩
  unfold keyOf
  rw [Tryz.underlying198]
  show (if _ then _ else _) = _
  rw [if_pos (by rw [nm_deep, hf]; rfl), hl]
  rfl

/-- the loader: its configuration, what is usual, the map of names -/
structure Ldr (B : Nat) (w : World) (lb mb : Nat) (v0 v1 v2 v3 : Value) (s : Sa) (f : Nm → Option Value) (n : Nat) : Prop where
  low : B ≤ lb ∧ B ≤ mb
  blk : w.heap[lb]? = some (.cells (v0 :: v1 :: v2 :: v3 :: (strs s.cf.brks ++ (cnv s.us ++ [.map (some mb)]))).toArray 61 (0, 0))
  rows : CfO B w v0 v1 v2 v3 s.cf
  map : KMap Tryz.prog 198 nmv w mb f n
  ten : s.cf.brks.length = 10
  vals : ∀ a v, f a = some v → v = .agg #[]
theorem Ldr.lt {B : Nat} {w : World} {lb mb : Nat} {v0 v1 v2 v3 : Value} {s : Sa} {f : Nm → Option Value} {n : Nat} (h : Ldr B w lb mb v0 v1 v2 v3 s f n) : lb < w.heap.size ∧ mb < w.heap.size ∧ B ≤ w.heap.size ∧ lb ≠ mb := by
  have h1 := at_lt h.blk
  have h2 := h.map.lt
  have := h.low
  refine ⟨h1, h2, by omega, fun e => ?_⟩
  obtain ⟨es, clock, hb, _⟩ := h.map.is
  rw [← e, h.blk] at hb
  cases hb
theorem brk_get {v0 v1 v2 v3 : Value} {bs : List Bs} (r : List Value) {i : Nat} (hi : i < bs.length) : (v0 :: v1 :: v2 :: v3 :: (strs bs ++ r))[4 + i]? = some (str bs[i]) := by
  rw [show 4 + i = i + 1 + 1 + 1 + 1 by omega, List.getElem?_cons_succ, List.getElem?_cons_succ, List.getElem?_cons_succ, List.getElem?_cons_succ, List.getElem?_append_left (by rw [strs_len]; omega), strs_at hi]
section
variable {B : Nat} {w : World} {lb mb : Nat} {v0 v1 v2 v3 : Value} {s : Sa} {f : Nm → Option Value} {n : Nat}
theorem Ldr.cell (h : Ldr B w lb mb v0 v1 v2 v3 s f n) {i : Nat} {x : Value} (hx : (v0 :: v1 :: v2 :: v3 :: (strs s.cf.brks ++ (cnv s.us ++ [.map (some mb)])))[i]? = some x) : w.cell? ⟨lb, i, none⟩ = some x := by
  rw [at_cell h.blk, List.getElem?_toArray, hx]
theorem Ldr.c0 (h : Ldr B w lb mb v0 v1 v2 v3 s f n) : w.cell? ⟨lb, 0, none⟩ = some v0 := h.cell rfl
theorem Ldr.c1 (h : Ldr B w lb mb v0 v1 v2 v3 s f n) : w.cell? ⟨lb, 1, none⟩ = some v1 := h.cell rfl
theorem Ldr.c2 (h : Ldr B w lb mb v0 v1 v2 v3 s f n) : w.cell? ⟨lb, 2, none⟩ = some v2 := h.cell rfl
theorem Ldr.c3 (h : Ldr B w lb mb v0 v1 v2 v3 s f n) : w.cell? ⟨lb, 3, none⟩ = some v3 := h.cell rfl
theorem Ldr.brk (h : Ldr B w lb mb v0 v1 v2 v3 s f n) {i : Nat} (hi : i < s.cf.brks.length) : w.cell? ⟨lb, 4 + i, none⟩ = some (.string ⟨s.cf.brks[i].toArray⟩) := h.cell (brk_get _ hi)
theorem Ldr.us (h : Ldr B w lb mb v0 v1 v2 v3 s f n) {j : Nat} {x : Value} (hx : (cnv s.us)[j]? = some x) (hj : j < 10) : w.cell? ⟨lb, 14 + j, none⟩ = some x := by
  refine h.cell ?_
  have ht := h.ten
  rw [show 14 + j = (10 + j) + 1 + 1 + 1 + 1 by omega, List.getElem?_cons_succ, List.getElem?_cons_succ, List.getElem?_cons_succ, List.getElem?_cons_succ, List.getElem?_append_right (by rw [strs_len]; omega), strs_len, ht, show 10 + j - 10 = j by omega, List.getElem?_append_left (by rw [cnv_len]; omega), hx]
theorem Ldr.nm (h : Ldr B w lb mb v0 v1 v2 v3 s f n) : w.cell? ⟨lb, 24, none⟩ = some (.map (some mb)) := by
  refine h.cell ?_
  have ht := h.ten
  rw [show 24 = 20 + 1 + 1 + 1 + 1 by omega, List.getElem?_cons_succ, List.getElem?_cons_succ, List.getElem?_cons_succ, List.getElem?_cons_succ, List.getElem?_append_right (by rw [strs_len]; omega), strs_len, ht, List.getElem?_append_right (by rw [cnv_len]; omega)]
  rfl
theorem Ldr.below {w' : World} (h : Ldr B w lb mb v0 v1 v2 v3 s f n) (hb : Below w.heap.size w w') : Ldr B w' lb mb v0 v1 v2 v3 s f n := by
  have hl := h.lt
  refine ⟨h.low, (hb.block _ hl.1).trans h.blk, ?_, h.map.kept (hb.block _ hl.2.1), h.ten, h.vals⟩
  obtain ⟨gs, g1, g2⟩ := h.rows.grps
  exact ⟨own_below h.rows.cons hb, ⟨gs, own_below g1 hb, g2.keep (hb.mono hl.2.2.1)⟩, own_below h.rows.usrs hb, own_below h.rows.accs hb⟩
/-- the map alone has turned -/
theorem Ldr.named {w' : World} {f' : Nm → Option Value} {n' : Nat} (h : Ldr B w lb mb v0 v1 v2 v3 s f n) (ho : Out (fun k => k = mb) w w') (hm : KMap Tryz.prog 198 nmv w' mb f' n') (hv : ∀ a v, f' a = some v → v = .agg #[]) : Ldr B w' lb mb v0 v1 v2 v3 s f' n' := by
  have hl := h.lt
  obtain ⟨es, clock, hb, _⟩ := h.map.is
  obtain ⟨gs, g1, g2⟩ := h.rows.grps
  refine ⟨h.low, ho.at_ h.blk hl.2.2.2, h.rows.out ho (fun k e => by have := h.low; omega) hl.2.2.1 ?_ ?_ ?_ ?_, hm, h.ten, hv⟩
  · intro k hk e; exact own_map h.rows.cons hb (e ▸ hk)
  · intro k hk e; exact own_map g1 hb (e ▸ hk)
  · intro k hk e; exact own_map h.rows.usrs hb (e ▸ hk)
  · intro k hk e; exact own_map h.rows.accs hb (e ▸ hk)
end

/-! ### a name is called -/
def NamesOf (c : Cf) (f : Nm → Option Value) : Prop := ∀ a, (f (sConsole, a)).isSome = takenC c a ∧ (f (sGroup, a)).isSome = takenG c a ∧ (f (sUser, a)).isSome = takenU c a
def CallNm (B : Nat) (lb mb : Nat) (v0 v1 v2 v3 : Value) (s : Sa) (f : Nm → Option Value) (key text : Bs) (c : Int) (w' : World) : Prop := ∃ f' n', Ldr B w' lb mb v0 v1 v2 v3 s f' n' ∧ (c = 0 → f' = put f (key, text) (.agg #[]))
theorem CallNm.no {B : Nat} {lb mb : Nat} {v0 v1 v2 v3 : Value} {s : Sa} {f : Nm → Option Value} {n : Nat} {key text : Bs} {c : Int} {w' : World} (h : Ldr B w' lb mb v0 v1 v2 v3 s f n) (hc : c ≠ 0) : CallNm B lb mb v0 v1 v2 v3 s f key text c w' := ⟨f, n, h, fun h => absurd h hc⟩
theorem CallNm.yes {B : Nat} {lb mb : Nat} {v0 v1 v2 v3 : Value} {s : Sa} {f : Nm → Option Value} {n : Nat} {key text : Bs} {c : Int} {w' : World} (h : Ldr B w' lb mb v0 v1 v2 v3 s (put f (key, text) (.agg #[])) n) : CallNm B lb mb v0 v1 v2 v3 s f key text c w' := ⟨_, n, h, fun _ => rfl⟩
def CallPost (B : Nat) (lb mb : Nat) (v0 v1 v2 v3 : Value) (s : Sa) (f : Nm → Option Value) (key text : Bs) (c : Int) (w : World) (e : Ending) (w' : World) : Prop :=
  e = .returned (.int .i64 c) ∧ Out (fun k => k = mb) w w' ∧ CallNm B lb mb v0 v1 v2 v3 s f key text c w'
theorem info_unit : (Tryz.prog.info? 199).map (fun i => (i.zero, i.size, i.bytes)) = some (some (.agg #[]), 0, 0) := by kernel_rfl
theorem zero_unit (w : World) : (zeroValue 199).run Tryz.prog w = .ok (.agg #[]) w := by kernel_rfl
set_option maxRecDepth 100000 in
set_option maxHeartbeats 4000000 in
theorem call_calls (B lb mb : Nat) (v0 v1 v2 v3 : Value) (s : Sa) (f : Nm → Option Value) (n : Nat) (key text : Bs) (hk : key.length ≤ 1000) (ht : text.length ≤ 65536) (tk : Bool) (htk : (f (key, text)).isSome = tk) (have' : Nat) (w : World) (h : Ldr B w lb mb v0 v1 v2 v3 s f n) :
    Calls Tryz.prog 83 #[.pointer (some ⟨lb, 0, none⟩), .string ⟨key.toArray⟩, .string ⟨text.toArray⟩, .int .i64 have'] w (CallPost B lb mb v0 v1 v2 v3 s f key text (callM tk have' text) w) := by
  have HL := Lib.hid h
  have HI := Lib.hid (Word.is_calls ⟨text.toArray⟩)
  rw [show (⟨text.toArray⟩ : ByteArray).data.toList = text from rfl] at HI
  have HK := Lib.hid (nm_key (a := (key, text)) (by show key.length ≤ _; omega) (by show text.length ≤ _; omega))
  have HTK := Lib.hid htk
  have hlt := h.lt
  unfold CallPost
  clear hk ht h htk
  cases hn : Word.isName text with
  | false =>
    have HC := Lib.hid (show callM tk have' text = 3 by unfold callM; rw [if_pos hn])
    rw [hn] at HI
    clear hn
    generalize callM tk have' text = c at *
    go_enter Tryz.func83, Tryz.ntmps83
    go_wp2_with fail
    refine (HI.out _).mono ?_
    rintro e w1 ⟨rfl, rfl⟩
    go_wp2_with fail
    go_ret
    exact ⟨by rw [HC.out]; rfl, Own.Out.refl _ _, .no HL.out (by rw [HC.out]; decide)⟩
  | true =>
    rw [hn] at HI
    have HC := Lib.hid (show callM tk have' text = if tk = true then 8 else if 4096 ≤ have' then 15 else 0 by unfold callM; rw [if_neg (by simp [hn])])
    clear hn
    generalize callM tk have' text = c at *
    go_enter Tryz.func83, Tryz.ntmps83
    go_wp2_with fail
    refine (HI.out _).mono ?_
    rintro e w1 ⟨rfl, rfl⟩
    go_wp2_with fail
    have N1 := Lib.hid (at_new w (.cells #[.string ⟨key.toArray⟩, .string ⟨text.toArray⟩] 198))
    have B1 := Lib.hid ((Below.refl w.heap.size w).alloc (Nat.le_refl _) (.cells #[.string ⟨key.toArray⟩, .string ⟨text.toArray⟩] 198))
    obtain ⟨W, hW⟩ : ∃ W, W = w.alloc (.cells #[.string ⟨key.toArray⟩, .string ⟨text.toArray⟩] 198) := ⟨_, rfl⟩
    rw [← hW] at N1 B1 ⊢
    generalize hg : w.heap.size = g at *
    have LW := Lib.hid (HL.out.below (by rw [hg]; exact B1.out))
    have lW := LW.out.lt
    have m0 := LW.out.nm
    have x0 := (at_cell N1.out 0 : _ = some (Value.string ⟨key.toArray⟩))
    have x1 := (at_cell N1.out 1 : _ = some (Value.string ⟨text.toArray⟩))
    have hgl := at_lt N1.out
    have hlk : ∀ W' : World, W'.heap[mb]? = W.heap[mb]? → (Instr.lookup 59 (.map (some mb)) (.agg #[.string ⟨key.toArray⟩, .string ⟨text.toArray⟩]) true).run Tryz.prog W' = .ok (.tuple #[(f (key, text)).getD (.agg #[]), .bool tk]) W' := by
      intro W' hb
      obtain ⟨l, hl⟩ := HK.out
      have := (LW.out.map.kept hb).look true keyed Tryz.underlying59 (z := .agg #[]) (zero_unit W') hl (nmv_inj _)
      rw [HTK.out] at this
      exact this
    have hfv : (f (key, text)).getD (.agg #[]) = .agg #[] := by
      cases e : f (key, text) with
      | none => rfl
      | some v => exact LW.out.vals _ _ e
    rw [hfv] at hlk
    have hlA := hlk W rfl
    have hlB := hlk W.drew rfl
    have hlC := hlk (W.alloc (.cells #[] 199 (0, 0))) (Below.heap_alloc _ _ _ lW.2.1)
    have hlD := hlk (W.alloc (.cells #[] 199 (0, 0))).drew (Below.heap_alloc _ _ _ lW.2.1)
    clear hlk hfv hW
    go_region
    all_goals
      have B3 : Hid (Below W.heap.size W (W.alloc (.cells #[] 199 (0, 0))).drew) := Lib.hid ((Below.refl W.heap.size W).alloc (Nat.le_refl _) (.cells #[] 199 (0, 0))).drew
      generalize (W.alloc (.cells #[] 199 (0, 0))).drew = W3 at *
      have L3 := Lib.hid (LW.out.below B3.out)
      have B03 := Lib.hid (B1.out.trans (B3.out.mono (by have := B1.out.size; omega)))
      have hB : B ≤ g := hlt.2.2.1
      clear hlA hlB hlC hlD
      cases tk with
      | true =>
        have HC' := Lib.hid (show c = 8 from HC.out)
        go_wp2_with fail
        go_ret
        exact ⟨by rw [HC'.out]; rfl, Own.Out.ofBelow B03.out fun i hi _ => by omega, .no L3.out (by rw [HC'.out]; decide)⟩
      | false =>
        by_cases hh : 4096 ≤ have'
        · have HC' := Lib.hid (show c = 15 by rw [HC.out, if_neg (by simp), if_pos hh])
          have q1 : (4096 : Int) ≤ (have' : Int) := by omega
          clear hh
          go_wp2_with fail
          go_ret
          exact ⟨by rw [HC'.out]; rfl, Own.Out.ofBelow B03.out fun i hi _ => by omega, .no L3.out (by rw [HC'.out]; decide)⟩
        · have HC' := Lib.hid (show c = 0 by rw [HC.out, if_neg (by simp), if_neg hh])
          have q1 : ¬ (4096 : Int) ≤ (have' : Int) := by omega
          have m1 := L3.out.nm
          have lW3 := L3.out.lt
          have y0 := (B3.out.cell (p := ⟨g, 0, none⟩) hgl).trans x0
          have y1 := (B3.out.cell (p := ⟨g, 1, none⟩) hgl).trans x1
          have hgl3 : g < W3.heap.size := Nat.lt_of_lt_of_le hgl B3.out.size
          clear hh x0 x1 m0 lW hgl
          go_wp2_with fail
          go_still_tail 6, (by kernel_rfl)
          change wpList _ _ _ _ _ W3.drew
          obtain ⟨kl, hkl⟩ := HK.out
          refine wp_store rfl _ _ _ _ rfl _ _ keyed Tryz.underlying59 mb _ _ rfl (L3.out.map.kept (w' := W3.drew) rfl) (key, text) rfl (.agg #[]) rfl hkl (nmv_inj _) ?_
          intro w4 K4 O4
          have O4' : Hid (Out (fun k => k = mb) W3 w4) := Lib.hid O4.ofDrew
          have L4 := Lib.hid (L3.out.named O4'.out K4 (by
            intro a v hv
            unfold put at hv
            split at hv
            · cases hv; rfl
            · exact L3.out.vals a v hv))
          clear K4 O4 y0 y1 m1 hkl
          go_wp2_with fail
          go_ret
          exact ⟨by rw [HC'.out]; rfl, (Own.Out.ofBelow (S := fun k => k = mb) B03.out fun i hi _ => by omega).trans O4'.out fun _ _ e => e, .yes L4.out⟩
end Go.Proofs.YtajfdachpdkbcaaGreatDoor.Conf
end

section
namespace Go.Proofs.YtajfdachpdkbcaaGreatDoor.Conf
open Go.RowKit Go.Proofs.YtajfdachpdkbcaaGreatDoor.Own Go.Proofs.YtajfdachpdkbcaaGreatDoor.Rw Go.Proofs.YtajfdachpdkbcaaGreatDoor.Tree Go.Proofs.YtajfdachpdkbcaaGreatDoor.KM

/-- blocks of statements are as they were -/
def Kp (w w' : World) : Prop := ∀ (k : Nat) (C : Array Value) (fr : Nat × Nat), w.heap[k]? = some (.cells C 57 fr) → w'.heap[k]? = some (.cells C 57 fr)
theorem Kp.refl (w : World) : Kp w w := fun _ _ _ h => h
theorem Kp.trans {a b c : World} (h : Kp a b) (g : Kp b c) : Kp a c := fun k C fr e => g k C fr (h k C fr e)
theorem kp_below {w w' : World} (h : Below w.heap.size w w') : Kp w w' := fun k _ _ e => (h.block k (at_lt e)).trans e
theorem kp_out {w w' : World} {S : Nat → Prop} (h : Out S w w') (hS : ∀ k C fr, w.heap[k]? = some (.cells C 57 fr) → ¬ S k) : Kp w w' := fun k C fr e => h.at_ e (hS k C fr e)
theorem kp_map {w w' : World} {mb n : Nat} {f : Nm → Option Value} (h : KMap Tryz.prog 198 nmv w mb f n) (ho : Out (fun k => k = mb) w w') : Kp w w' := kp_out ho fun k C fr e e2 => by
  obtain ⟨es, clock, hb, _⟩ := h.is
  rw [e2, hb] at e
  cases e
theorem kp_cells {w : World} {b : Nat} {C : Array Value} {T : TypeId} {fr : Nat × Nat} (h : w.heap[b]? = some (.cells C T fr)) (hT : T ≠ 57) {k : Nat} {D : Array Value} {gr : Nat × Nat} (e : w.heap[k]? = some (.cells D 57 gr)) : k ≠ b := by
  intro e2
  rw [e2, h] at e
  simp at e
  exact hT e.2.1

section
variable {B : Nat} {W wa w2 : World} {lb mb : Nat} {v0 v1 v2 v3 v' : Value} {s : Sa} {f : Nm → Option Value} {n : Nat}
theorem Ldr.add_cons (h : Ldr B W lb mb v0 v1 v2 v3 s f n) (x : Cn) (ha : Below W.heap.size W wa) (own2 : w2.ownsRow B 42 10 v' (s.cf.cons.length + 1) (s.cf.cons.flatMap cnv ++ cnv x)) (grow : wa.grownBy w2 v0.ownBlock) :
    (w2.cell? ⟨lb, 0, none⟩ = some v0 ∧ w2.frozen? ⟨lb, 0, none⟩ = false ∧ lb < w2.heap.size) ∧ Ldr B (w2.setCell ⟨lb, 0, none⟩ v') lb mb v' v1 v2 v3 ⟨{ s.cf with cons := s.cf.cons ++ [x] }, s.us⟩ f n ∧ (Below B W (w2.setCell ⟨lb, 0, none⟩ v') ∧ Kp W (w2.setCell ⟨lb, 0, none⟩ v')) := by
  obtain ⟨gs, hg1, hg2⟩ := h.rows.grps
  have hl := h.lt
  have hlow := h.low
  have hr := h.rows.cons
  have ho : Out (fun k => v0.ownBlock = some k) W w2 := (Out.ofNew (S := fun k => v0.ownBlock = some k) ha).trans (grown_out grow) fun _ _ e => e
  have nlb : v0.ownBlock ≠ some lb := own_type hr h.blk (by decide)
  obtain ⟨es, clock, hmb, _⟩ := h.map.is
  have nmb : v0.ownBlock ≠ some mb := own_map hr hmb
  have blk2 := ho.at_ h.blk nlb
  have map2 := h.map.kept (ho.block mb hl.2.1 nmb)
  have os : Out (fun k => k = lb) w2 (w2.setCell ⟨lb, 0, none⟩ v') := Own.Out.setCell (S := fun k => k = lb) (Out.refl _ _) (p := ⟨lb, 0, none⟩) (fun _ => rfl) v'
  have oo : Out (fun k => v0.ownBlock = some k ∨ k = lb) W (w2.setCell ⟨lb, 0, none⟩ v') := (ho.mono fun _ _ e => .inl e).trans os fun _ _ e => .inr e
  have hbel : Below B W (w2.setCell ⟨lb, 0, none⟩ v') := oo.below hl.2.2.1 fun k e => by
    rcases e with e | e
    · exact (own_lt hr e).1
    · omega
  refine ⟨⟨?_, at_frozen blk2 _, at_lt blk2⟩, ⟨hlow, ?_, ⟨?_, ?_, ?_, ?_⟩, map2.kept (os.block mb (by have := ho.size; omega) (fun e => hl.2.2.2 e.symm)), h.ten, h.vals⟩, hbel, kp_out oo fun k C fr e e2 => e2.elim (fun e2 => own_type hr e (by decide) e2) fun e2 => kp_cells h.blk (by decide) e e2⟩
  · rw [at_cell blk2]; rfl
  · rw [at_set blk2, List.setIfInBounds_toArray]; rfl
  · show World.ownsRow _ B _ 10 v' (s.cf.cons ++ [x]).length ((s.cf.cons ++ [x]).flatMap cnv)
    rw [List.length_append, List.length_singleton, fm_app, fm_one]
    exact own_out own2 os fun k e e2 => own_type own2 blk2 (by decide) (e2 ▸ e)
  · exact ⟨gs, own_out hg1 oo fun k e e2 => e2.elim (fun e2 => own_other hg1 hr (by decide) e e2) fun e2 => own_type hg1 h.blk (by decide) (e2 ▸ e), hg2.keep hbel⟩
  · exact own_out h.rows.usrs oo fun k e e2 => e2.elim (fun e2 => own_other h.rows.usrs hr (by decide) e e2) fun e2 => own_type h.rows.usrs h.blk (by decide) (e2 ▸ e)
  · exact own_out h.rows.accs oo fun k e e2 => e2.elim (fun e2 => own_other h.rows.accs hr (by decide) e e2) fun e2 => own_type h.rows.accs h.blk (by decide) (e2 ▸ e)
theorem Ldr.add_grps (h : Ldr B W lb mb v0 v1 v2 v3 s f n) (nm : Bs) (ps : List Bs) (p : Option Addr) (c : Nat) (gs : List Value) (hg1 : W.ownsRow B 65 2 v1 s.cf.grps.length gs) (hg2 : Gs B W gs s.cf.grps) (hx : TxB B W p c ps) (ha : Below W.heap.size W wa) (own2 : w2.ownsRow B 65 2 v' (s.cf.grps.length + 1) (gs ++ [str nm, .slice p ps.length c])) (grow : wa.grownBy w2 v1.ownBlock) :
    (w2.cell? ⟨lb, 1, none⟩ = some v1 ∧ w2.frozen? ⟨lb, 1, none⟩ = false ∧ lb < w2.heap.size) ∧ Ldr B (w2.setCell ⟨lb, 1, none⟩ v') lb mb v0 v' v2 v3 ⟨{ s.cf with grps := s.cf.grps ++ [(nm, ps)] }, s.us⟩ f n ∧ (Below B W (w2.setCell ⟨lb, 1, none⟩ v') ∧ Kp W (w2.setCell ⟨lb, 1, none⟩ v')) := by
  have hl := h.lt
  have hlow := h.low
  have hr := hg1
  have ho : Out (fun k => v1.ownBlock = some k) W w2 := (Out.ofNew (S := fun k => v1.ownBlock = some k) ha).trans (grown_out grow) fun _ _ e => e
  have nlb : v1.ownBlock ≠ some lb := own_type hr h.blk (by decide)
  obtain ⟨es, clock, hmb, _⟩ := h.map.is
  have nmb : v1.ownBlock ≠ some mb := own_map hr hmb
  have blk2 := ho.at_ h.blk nlb
  have map2 := h.map.kept (ho.block mb hl.2.1 nmb)
  have os : Out (fun k => k = lb) w2 (w2.setCell ⟨lb, 1, none⟩ v') := Own.Out.setCell (S := fun k => k = lb) (Out.refl _ _) (p := ⟨lb, 1, none⟩) (fun _ => rfl) v'
  have oo : Out (fun k => v1.ownBlock = some k ∨ k = lb) W (w2.setCell ⟨lb, 1, none⟩ v') := (ho.mono fun _ _ e => .inl e).trans os fun _ _ e => .inr e
  have hbel : Below B W (w2.setCell ⟨lb, 1, none⟩ v') := oo.below hl.2.2.1 fun k e => by
    rcases e with e | e
    · exact (own_lt hr e).1
    · omega
  refine ⟨⟨?_, at_frozen blk2 _, at_lt blk2⟩, ⟨hlow, ?_, ⟨?_, ?_, ?_, ?_⟩, map2.kept (os.block mb (by have := ho.size; omega) (fun e => hl.2.2.2 e.symm)), h.ten, h.vals⟩, hbel, kp_out oo fun k C fr e e2 => e2.elim (fun e2 => own_type hr e (by decide) e2) fun e2 => kp_cells h.blk (by decide) e e2⟩
  · rw [at_cell blk2]; rfl
  · rw [at_set blk2, List.setIfInBounds_toArray]; rfl
  · exact own_out h.rows.cons oo fun k e e2 => e2.elim (fun e2 => own_other h.rows.cons hr (by decide) e e2) fun e2 => own_type h.rows.cons h.blk (by decide) (e2 ▸ e)
  · refine ⟨gs ++ [str nm, .slice p ps.length c], ?_, (hg2.keep hbel).app (.cons (hx.keep hbel) .nil)⟩
    show World.ownsRow _ B _ 2 v' (s.cf.grps ++ [(nm, ps)]).length _
    rw [List.length_append, List.length_singleton]
    exact own_out own2 os fun k e e2 => own_type own2 blk2 (by decide) (e2 ▸ e)
  · exact own_out h.rows.usrs oo fun k e e2 => e2.elim (fun e2 => own_other h.rows.usrs hr (by decide) e e2) fun e2 => own_type h.rows.usrs h.blk (by decide) (e2 ▸ e)
  · exact own_out h.rows.accs oo fun k e e2 => e2.elim (fun e2 => own_other h.rows.accs hr (by decide) e e2) fun e2 => own_type h.rows.accs h.blk (by decide) (e2 ▸ e)
theorem Ldr.add_usrs (h : Ldr B W lb mb v0 v1 v2 v3 s f n) (x : Bs × Bs) (ha : Below W.heap.size W wa) (own2 : w2.ownsRow B 67 2 v' (s.cf.usrs.length + 1) (s.cf.usrs.flatMap urv ++ urv x)) (grow : wa.grownBy w2 v2.ownBlock) :
    (w2.cell? ⟨lb, 2, none⟩ = some v2 ∧ w2.frozen? ⟨lb, 2, none⟩ = false ∧ lb < w2.heap.size) ∧ Ldr B (w2.setCell ⟨lb, 2, none⟩ v') lb mb v0 v1 v' v3 ⟨{ s.cf with usrs := s.cf.usrs ++ [x] }, s.us⟩ f n ∧ (Below B W (w2.setCell ⟨lb, 2, none⟩ v') ∧ Kp W (w2.setCell ⟨lb, 2, none⟩ v')) := by
  obtain ⟨gs, hg1, hg2⟩ := h.rows.grps
  have hl := h.lt
  have hlow := h.low
  have hr := h.rows.usrs
  have ho : Out (fun k => v2.ownBlock = some k) W w2 := (Out.ofNew (S := fun k => v2.ownBlock = some k) ha).trans (grown_out grow) fun _ _ e => e
  have nlb : v2.ownBlock ≠ some lb := own_type hr h.blk (by decide)
  obtain ⟨es, clock, hmb, _⟩ := h.map.is
  have nmb : v2.ownBlock ≠ some mb := own_map hr hmb
  have blk2 := ho.at_ h.blk nlb
  have map2 := h.map.kept (ho.block mb hl.2.1 nmb)
  have os : Out (fun k => k = lb) w2 (w2.setCell ⟨lb, 2, none⟩ v') := Own.Out.setCell (S := fun k => k = lb) (Out.refl _ _) (p := ⟨lb, 2, none⟩) (fun _ => rfl) v'
  have oo : Out (fun k => v2.ownBlock = some k ∨ k = lb) W (w2.setCell ⟨lb, 2, none⟩ v') := (ho.mono fun _ _ e => .inl e).trans os fun _ _ e => .inr e
  have hbel : Below B W (w2.setCell ⟨lb, 2, none⟩ v') := oo.below hl.2.2.1 fun k e => by
    rcases e with e | e
    · exact (own_lt hr e).1
    · omega
  refine ⟨⟨?_, at_frozen blk2 _, at_lt blk2⟩, ⟨hlow, ?_, ⟨?_, ?_, ?_, ?_⟩, map2.kept (os.block mb (by have := ho.size; omega) (fun e => hl.2.2.2 e.symm)), h.ten, h.vals⟩, hbel, kp_out oo fun k C fr e e2 => e2.elim (fun e2 => own_type hr e (by decide) e2) fun e2 => kp_cells h.blk (by decide) e e2⟩
  · rw [at_cell blk2]; rfl
  · rw [at_set blk2, List.setIfInBounds_toArray]; rfl
  · exact own_out h.rows.cons oo fun k e e2 => e2.elim (fun e2 => own_other h.rows.cons hr (by decide) e e2) fun e2 => own_type h.rows.cons h.blk (by decide) (e2 ▸ e)
  · exact ⟨gs, own_out hg1 oo fun k e e2 => e2.elim (fun e2 => own_other hg1 hr (by decide) e e2) fun e2 => own_type hg1 h.blk (by decide) (e2 ▸ e), hg2.keep hbel⟩
  · show World.ownsRow _ B _ 2 v' (s.cf.usrs ++ [x]).length ((s.cf.usrs ++ [x]).flatMap urv)
    rw [List.length_append, List.length_singleton, fm_app, fm_one]
    exact own_out own2 os fun k e e2 => own_type own2 blk2 (by decide) (e2 ▸ e)
  · exact own_out h.rows.accs oo fun k e e2 => e2.elim (fun e2 => own_other h.rows.accs hr (by decide) e e2) fun e2 => own_type h.rows.accs h.blk (by decide) (e2 ▸ e)
theorem Ldr.add_accs (h : Ldr B W lb mb v0 v1 v2 v3 s f n) (x : Bs × Bs × Int) (ha : Below W.heap.size W wa) (own2 : w2.ownsRow B 46 3 v' (s.cf.accs.length + 1) (s.cf.accs.flatMap acv ++ acv x)) (grow : wa.grownBy w2 v3.ownBlock) :
    (w2.cell? ⟨lb, 3, none⟩ = some v3 ∧ w2.frozen? ⟨lb, 3, none⟩ = false ∧ lb < w2.heap.size) ∧ Ldr B (w2.setCell ⟨lb, 3, none⟩ v') lb mb v0 v1 v2 v' ⟨{ s.cf with accs := s.cf.accs ++ [x] }, s.us⟩ f n ∧ (Below B W (w2.setCell ⟨lb, 3, none⟩ v') ∧ Kp W (w2.setCell ⟨lb, 3, none⟩ v')) := by
  obtain ⟨gs, hg1, hg2⟩ := h.rows.grps
  have hl := h.lt
  have hlow := h.low
  have hr := h.rows.accs
  have ho : Out (fun k => v3.ownBlock = some k) W w2 := (Out.ofNew (S := fun k => v3.ownBlock = some k) ha).trans (grown_out grow) fun _ _ e => e
  have nlb : v3.ownBlock ≠ some lb := own_type hr h.blk (by decide)
  obtain ⟨es, clock, hmb, _⟩ := h.map.is
  have nmb : v3.ownBlock ≠ some mb := own_map hr hmb
  have blk2 := ho.at_ h.blk nlb
  have map2 := h.map.kept (ho.block mb hl.2.1 nmb)
  have os : Out (fun k => k = lb) w2 (w2.setCell ⟨lb, 3, none⟩ v') := Own.Out.setCell (S := fun k => k = lb) (Out.refl _ _) (p := ⟨lb, 3, none⟩) (fun _ => rfl) v'
  have oo : Out (fun k => v3.ownBlock = some k ∨ k = lb) W (w2.setCell ⟨lb, 3, none⟩ v') := (ho.mono fun _ _ e => .inl e).trans os fun _ _ e => .inr e
  have hbel : Below B W (w2.setCell ⟨lb, 3, none⟩ v') := oo.below hl.2.2.1 fun k e => by
    rcases e with e | e
    · exact (own_lt hr e).1
    · omega
  refine ⟨⟨?_, at_frozen blk2 _, at_lt blk2⟩, ⟨hlow, ?_, ⟨?_, ?_, ?_, ?_⟩, map2.kept (os.block mb (by have := ho.size; omega) (fun e => hl.2.2.2 e.symm)), h.ten, h.vals⟩, hbel, kp_out oo fun k C fr e e2 => e2.elim (fun e2 => own_type hr e (by decide) e2) fun e2 => kp_cells h.blk (by decide) e e2⟩
  · rw [at_cell blk2]; rfl
  · rw [at_set blk2, List.setIfInBounds_toArray]; rfl
  · exact own_out h.rows.cons oo fun k e e2 => e2.elim (fun e2 => own_other h.rows.cons hr (by decide) e e2) fun e2 => own_type h.rows.cons h.blk (by decide) (e2 ▸ e)
  · exact ⟨gs, own_out hg1 oo fun k e e2 => e2.elim (fun e2 => own_other hg1 hr (by decide) e e2) fun e2 => own_type hg1 h.blk (by decide) (e2 ▸ e), hg2.keep hbel⟩
  · exact own_out h.rows.usrs oo fun k e e2 => e2.elim (fun e2 => own_other h.rows.usrs hr (by decide) e e2) fun e2 => own_type h.rows.usrs h.blk (by decide) (e2 ▸ e)
  · show World.ownsRow _ B _ 3 v' (s.cf.accs ++ [x]).length ((s.cf.accs ++ [x]).flatMap acv)
    rw [List.length_append, List.length_singleton, fm_app, fm_one]
    exact own_out own2 os fun k e e2 => own_type own2 blk2 (by decide) (e2 ▸ e)
end
/-! ### the names that are taken -/
theorem names_put {c c' : Cf} {f : Nm → Option Value} {key nm : Bs} (h : NamesOf c f) (hC : ∀ a, takenC c' a = (takenC c a || (key == sConsole && nm == a))) (hG : ∀ a, takenG c' a = (takenG c a || (key == sGroup && nm == a))) (hU : ∀ a, takenU c' a = (takenU c a || (key == sUser && nm == a))) :
    NamesOf c' (put f (key, nm) (.agg #[])) := by
  have e : ∀ k a, (put f (key, nm) (.agg #[]) (k, a)).isSome = ((f (k, a)).isSome || (key == k && nm == a)) := by
    intro k a
    unfold put
    split
    · rename_i h; cases h; simp
    · rename_i h
      have : (key == k && nm == a) = false := by
        cases e1 : key == k
        · rfl
        · cases e2 : nm == a
          · rfl
          · rw [beq_iff_eq] at e1 e2; subst e1 e2; exact absurd rfl h
      rw [this, Bool.or_false]
  intro a
  rw [e, e, e, (h a).1, (h a).2.1, (h a).2.2, hC, hG, hU]
  exact ⟨rfl, rfl, rfl⟩
theorem names_con {c : Cf} {f : Nm → Option Value} {x : Cn} (h : NamesOf c f) : NamesOf { c with cons := c.cons ++ [x] } (put f (sConsole, x.name) (.agg #[])) :=
  names_put h (fun a => by simp [takenC]) (fun a => by simp [takenG, show (sConsole == sGroup) = false by decide]) (fun a => by simp [takenU, show (sConsole == sUser) = false by decide])
theorem names_grp {c : Cf} {f : Nm → Option Value} {x : Bs × List Bs} (h : NamesOf c f) : NamesOf { c with grps := c.grps ++ [x] } (put f (sGroup, x.1) (.agg #[])) :=
  names_put h (fun a => by simp [takenC, show (sGroup == sConsole) = false by decide]) (fun a => by simp [takenG]) (fun a => by simp [takenU, show (sGroup == sUser) = false by decide])
theorem names_usr {c : Cf} {f : Nm → Option Value} {x : Bs × Bs} (h : NamesOf c f) : NamesOf { c with usrs := c.usrs ++ [x] } (put f (sUser, x.1) (.agg #[])) :=
  names_put h (fun a => by simp [takenC, show (sUser == sConsole) = false by decide]) (fun a => by simp [takenG, show (sUser == sGroup) = false by decide]) (fun a => by simp [takenU])
/-- a loader with its names -/
def LdS (B : Nat) (lb mb : Nat) (us : Cn) (c : Cf) (w : World) : Prop := ∃ v0 v1 v2 v3 f n, Ldr B w lb mb v0 v1 v2 v3 ⟨c, us⟩ f n ∧ NamesOf c f
theorem LdS.below {B lb mb : Nat} {us : Cn} {c : Cf} {w w' : World} (h : LdS B lb mb us c w) (hb : Below w.heap.size w w') : LdS B lb mb us c w' := by
  obtain ⟨v0, v1, v2, v3, f, n, h1, h2⟩ := h
  exact ⟨v0, v1, v2, v3, f, n, h1.below hb, h2⟩
def TkPost (B lb mb : Nat) (us : Cn) (r : Int × Cf) (w : World) (e : Ending) (w' : World) : Prop := e = .returned (.int .i64 r.1) ∧ Below B w w' ∧ Kp w w' ∧ (r.1 = 0 → LdS B lb mb us r.2 w')
end Go.Proofs.YtajfdachpdkbcaaGreatDoor.Conf
end


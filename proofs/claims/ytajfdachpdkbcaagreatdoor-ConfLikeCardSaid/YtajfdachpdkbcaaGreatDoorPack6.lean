/-
Layer 9 (fault), for a seat without words, with lines: errors in memory.
Layer 9 (fault): closed facts on what errors.As and errors.Is ask of internal/reflectlite and of the method sets, at the types of package fault. Written by gen_fltlib.py.
Layer 9 (fault): errors.As at the two targets of package fault, and Unwrap, walked.
Layer 9 (fault): errors.As, called. Written by a program out of one frame for three cases.
Layer 9 (fault): New, Wrap, Of, Has, walked.
Layer 9 (fault): the Faults of an error, and its line, walked.
Layer 13 (tree): giveUp, the reader, next.
Layer 13 (tree): statement.
-/
import Derived.Test.YtajfdachpdkbcaaGreatDoorPack5
import Derived.WalkKit
import Derived.Test.YtajfdachpdkbcaaGreatDoorProg
import Derived.LaidEql
import Derived.Stop.Asserts
import Derived.RowKitTokens
import Derived.Lib.Hide
import Derived.WalkLawsBesides
import Derived.StillTailTactics
section
namespace Go.Proofs.YtajfdachpdkbcaaGreatDoor.Flt
open Go.RowKit Go.Proofs.YtajfdachpdkbcaaGreatDoor.Own

structure Lay where
  blk : Nat
  line : Int
  what : List UInt8
def lineOf : List Lay → Int
  | [] => 0
  | x :: r => if 0 < x.line then x.line else lineOf r
theorem lineOf_some {x : Lay} (h : 0 < x.line) (r : List Lay) : lineOf (x :: r) = x.line := if_pos h
theorem lineOf_none {x : Lay} (h : ¬ 0 < x.line) (r : List Lay) : lineOf (x :: r) = lineOf r := if_neg h
theorem lineOf_nil : lineOf [] = 0 := rfl
def hasB (c a : Int) : Bool := a != 0 && c == a
/-- an error in memory: faults, one around the other, and at the end a Kind -/
def Err (w : World) : Nat → Value → List Lay → Int → Prop
  | _, v, [], c => v = .iface 92 (.int .i64 c)
  | N, v, x :: r, c => v = .iface 97 (.pointer (some ⟨x.blk, 0, none⟩)) ∧ x.blk < N ∧ ∃ u, w.heap[x.blk]? = some (.cells #[.int .i64 x.line, .string ⟨x.what.toArray⟩, u] 99 (0, 0)) ∧ Err w x.blk u r c
theorem Err.same {w w' : World} : ∀ {l : List Lay} {N : Nat} {v : Value} {c : Int}, Err w N v l c → (∀ k o, k < N → w.heap[k]? = some o → w'.heap[k]? = some o) → Err w' N v l c
  | [], _, _, _, h, _ => h
  | _ :: _, _, _, _, ⟨h1, h2, u, h3, h4⟩, hs => ⟨h1, h2, u, hs _ _ h2 h3, Err.same h4 fun k o hk => hs k o (by omega)⟩
theorem Err.more {w : World} : ∀ {l : List Lay} {N N' : Nat} {v : Value} {c : Int}, Err w N v l c → N ≤ N' → Err w N' v l c
  | [], _, _, _, _, h, _ => h
  | _ :: _, _, _, _, _, ⟨h1, h2, u, h3, h4⟩, hs => ⟨h1, Nat.lt_of_lt_of_le h2 hs, u, h3, h4⟩
theorem Err.below {w w' : World} {B N : Nat} {v : Value} {l : List Lay} {c : Int} (h : Err w N v l c) (hb : Below B w w') (hN : N ≤ B) : Err w' N v l c :=
  h.same fun k o hk ho => (hb.block k (by omega)).trans ho
theorem Err.out {w w' : World} {S : Nat → Prop} {N : Nat} {v : Value} {l : List Lay} {c : Int} (h : Err w N v l c) (hb : Out S w w') (hN : ∀ i, S i → N ≤ i) : Err w' N v l c :=
  h.same fun k o hk ho => hb.at_ ho fun hs => by have := hN k hs; omega
/-- how deep an error lies -/
def deep : Value → Nat
  | .iface _ (.pointer (some a)) => a.block + 1
  | _ => 0

/-- what the handle of the package errors holds -/
structure Tab (w : World) : Prop where
  et : w.cell? ⟨0, 0, none⟩ = some (.iface 178 (.agg #[.pointer (some ⟨2, 31, none⟩)]))
theorem Tab.lt {w : World} (h : Tab w) : 0 < w.heap.size := World.block_lt_of_cell? w _ h.et
theorem Tab.below {w w' : World} (h : Tab w) (hb : Below w.heap.size w w') : Tab w' := ⟨(hb.cell (p := ⟨_, 0, none⟩) h.lt).trans h.et⟩
theorem Tab.out {w w' : World} {S : Nat → Prop} (h : Tab w) (hb : Out S w w') (h2 : ¬ S 0) : Tab w' := ⟨(hb.cell (p := ⟨_, 0, none⟩) h.lt h2).trans h.et⟩
end Go.Proofs.YtajfdachpdkbcaaGreatDoor.Flt
end

section
namespace Go.Proofs.YtajfdachpdkbcaaGreatDoor.Flt
open Go.RowKit Go.Extern.Stop Go.Stop Go.Extern

theorem methodKind (x : Value) (w : World) : (Go.method 383 178 (.agg #[x]) "Kind").run Tryz.prog w = .ok (199, x) w := by kernel_rfl
theorem methodElem (x : Value) (w : World) : (Go.method 383 178 (.agg #[x]) "Elem").run Tryz.prog w = .ok (212, .agg #[x]) w := by kernel_rfl
theorem methodImplements (x : Value) (w : World) : (Go.method 383 178 (.agg #[x]) "Implements").run Tryz.prog w = .ok (213, .agg #[x]) w := by kernel_rfl
theorem methodAssignableTo (x : Value) (w : World) : (Go.method 383 178 (.agg #[x]) "AssignableTo").run Tryz.prog w = .ok (210, .agg #[x]) w := by kernel_rfl
theorem methodUnwrap (v : Value) (w : World) : (Go.method 383 97 v "Unwrap").run Tryz.prog w = .ok (204, v) w := by kernel_rfl
theorem typeOf_K (v : Value) (w : World) : (ReflectliteType.typeOf #[.iface 92 v]).run Tryz.prog w = .ok (.iface 178 (.agg #[.pointer (some ⟨2, 92, none⟩)])) w := by kernel_rfl
theorem typeOf_F (v : Value) (w : World) : (ReflectliteType.typeOf #[.iface 97 v]).run Tryz.prog w = .ok (.iface 178 (.agg #[.pointer (some ⟨2, 97, none⟩)])) w := by kernel_rfl
theorem assignable_KK (w : World) : (ReflectliteType.relation "AssignableTo" ReflectliteType.assignableTo #[.agg #[.pointer (some ⟨2, 92, none⟩)], .iface 178 (.agg #[.pointer (some ⟨2, 92, none⟩)])]).run Tryz.prog w = .ok (.bool true) w := by kernel_rfl
theorem assignable_KF (w : World) : (ReflectliteType.relation "AssignableTo" ReflectliteType.assignableTo #[.agg #[.pointer (some ⟨2, 92, none⟩)], .iface 178 (.agg #[.pointer (some ⟨2, 97, none⟩)])]).run Tryz.prog w = .ok (.bool false) w := by kernel_rfl
theorem assignable_FK (w : World) : (ReflectliteType.relation "AssignableTo" ReflectliteType.assignableTo #[.agg #[.pointer (some ⟨2, 97, none⟩)], .iface 178 (.agg #[.pointer (some ⟨2, 92, none⟩)])]).run Tryz.prog w = .ok (.bool false) w := by kernel_rfl
theorem assignable_FF (w : World) : (ReflectliteType.relation "AssignableTo" ReflectliteType.assignableTo #[.agg #[.pointer (some ⟨2, 97, none⟩)], .iface 178 (.agg #[.pointer (some ⟨2, 97, none⟩)])]).run Tryz.prog w = .ok (.bool true) w := by kernel_rfl
theorem noAs_K (v : Value) (xT : TypeId) (w : World) : (Instr.typeAssert (.iface 92 v) xT 183 true).run Tryz.prog w = .ok (.tuple #[.nilIface, .bool false]) w := run_typeAssert_lacksB Tryz.underlying183 (by kernel_rfl) (by kernel_rfl) v xT w
theorem noUnwraps_K (v : Value) (xT : TypeId) (w : World) : (Instr.typeAssert (.iface 92 v) xT 188 true).run Tryz.prog w = .ok (.tuple #[.nilIface, .bool false]) w := run_typeAssert_lacksB Tryz.underlying188 (by kernel_rfl) (by kernel_rfl) v xT w
theorem noUnwrap_K (v : Value) (xT : TypeId) (w : World) : (Instr.typeAssert (.iface 92 v) xT 186 true).run Tryz.prog w = .ok (.tuple #[.nilIface, .bool false]) w := run_typeAssert_lacksB Tryz.underlying186 (by kernel_rfl) (by kernel_rfl) v xT w
theorem noAs_F (v : Value) (xT : TypeId) (w : World) : (Instr.typeAssert (.iface 97 v) xT 183 true).run Tryz.prog w = .ok (.tuple #[.nilIface, .bool false]) w := run_typeAssert_lacksB Tryz.underlying183 (by kernel_rfl) (by kernel_rfl) v xT w
theorem noUnwraps_F (v : Value) (xT : TypeId) (w : World) : (Instr.typeAssert (.iface 97 v) xT 188 true).run Tryz.prog w = .ok (.tuple #[.nilIface, .bool false]) w := run_typeAssert_lacksB Tryz.underlying188 (by kernel_rfl) (by kernel_rfl) v xT w
theorem hasUnwrap_F (v : Value) (xT : TypeId) (w : World) : (Instr.typeAssert (.iface 97 v) xT 186 true).run Tryz.prog w = .ok (.tuple #[.iface 97 v, .bool true]) w := run_typeAssert_hasB Tryz.underlying186 (by kernel_rfl) v xT w
theorem eql_KK (c a : Int) (w : World) : (binOp .eql 31 (.iface 92 (.int .i64 c)) (.iface 92 (.int .i64 a))).run Tryz.prog w = .ok (.bool (c == a)) w := by kernel_rfl
theorem eql_FK (v u : Value) (w : World) : (binOp .eql 31 (.iface 97 v) (.iface 92 u)).run Tryz.prog w = .ok (.bool false) w := run_eql_iface_types _ _ _ _ Tryz.underlying31 (by decide) w
theorem eql_nil (t : TypeId) (v : Value) (w : World) : (binOp .eql 31 .nilIface (.iface t v)).run Tryz.prog w = .ok (.bool false) w := run_eql_iface_nil_left (P := Tryz.prog) w t v Tryz.underlying31

/-! ### target K -/
theorem valueOf_K (t : Addr) (w : World) : (ReflectliteValue.unpack (.iface 94 (.pointer (some t)))).run Tryz.prog w
    = .ok (.agg #[.pointer (some ⟨2, 94, none⟩), .pointer (some ⟨w.heap.size, 0, none⟩), .int .u64 150]) (w.alloc (.cells #[.pointer (some t)] 94)) := by kernel_rfl
theorem type_K (a : Addr) (w : World) : (ReflectliteValue.methodAny (ReflectliteValue.valueError "reflectlite.Value.Type" 0) (fun t _ _ _ => ReflectliteType.toType t) #[.agg #[.pointer (some ⟨2, 94, none⟩), .pointer (some a), .int .u64 150]]).run Tryz.prog w
    = .ok (.iface 178 (.agg #[.pointer (some ⟨2, 94, none⟩)])) w := by kernel_rfl
theorem kindT_K (w : World) : ((ReflectliteType.abiMethod fun t => (fun a : Nat => Value.int IntKind.u8 (a : Int)) <$> Rtype.kind t) #[.pointer (some ⟨2, 94, none⟩)]).run Tryz.prog w = .ok (.int .u8 22) w := by kernel_rfl
theorem kindE_K (w : World) : ((ReflectliteType.abiMethod fun t => (fun a : Nat => Value.int IntKind.u8 (a : Int)) <$> Rtype.kind t) #[.pointer (some ⟨2, 92, none⟩)]).run Tryz.prog w = .ok (.int .u8 2) w := by kernel_rfl
theorem parts_K (a : Addr) (w : World) : (ReflectliteValue.parts (.agg #[.pointer (some ⟨2, 94, none⟩), .pointer (some a), .int .u64 150])).run Tryz.prog w = .ok (some (94, a, 150)) w := by kernel_rfl
theorem elem_K (w : World) : (ReflectliteType.method ReflectliteType.elem #[.agg #[.pointer (some ⟨2, 94, none⟩)]]).run Tryz.prog w = .ok (.iface 178 (.agg #[.pointer (some ⟨2, 92, none⟩)])) w := by kernel_rfl
theorem implements_K (w : World) : (ReflectliteType.relation "Implements" ReflectliteType.implements_ #[.agg #[.pointer (some ⟨2, 92, none⟩)], .iface 178 (.agg #[.pointer (some ⟨2, 31, none⟩)])]).run Tryz.prog w = .ok (.bool true) w := by kernel_rfl
theorem elemOf_K (w : World) : (Rtype.elem? 94).run Tryz.prog w = .ok (some 92) w := by kernel_rfl
theorem mk_K (p : Addr) (w : World) : (ReflectliteValue.mk 92 p ReflectliteValue.flagAddr).run Tryz.prog w = .ok (.agg #[.pointer (some ⟨2, 92, none⟩), .pointer (some p), .int .u64 386]) w := by kernel_rfl
theorem partsA_K (a : Addr) (w : World) : (ReflectliteValue.parts (.agg #[.pointer (some ⟨2, 92, none⟩), .pointer (some a), .int .u64 386])).run Tryz.prog w = .ok (some (92, a, 386)) w := by kernel_rfl
theorem partsV_K (a : Addr) (w : World) : (ReflectliteValue.parts (.agg #[.pointer (some ⟨2, 92, none⟩), .pointer (some a), .int .u64 130])).run Tryz.prog w = .ok (some (92, a, 130)) w := by kernel_rfl
theorem direct_K (w : World) : (Rtype.directlyAssignable 92 92).run Tryz.prog w = .ok true w := by kernel_rfl
theorem size_K (w : World) : (sizeOf 92).run Tryz.prog w = .ok 1 w := by kernel_rfl
theorem valueE_K (c : Int) (w : World) : (ReflectliteValue.unpack (.iface 92 (.int .i64 c))).run Tryz.prog w
    = .ok (.agg #[.pointer (some ⟨2, 92, none⟩), .pointer (some ⟨w.heap.size, 0, none⟩), .int .u64 130]) (w.alloc (.cells #[.int .i64 c] 92)) := by kernel_rfl
theorem isNil_K (a p : Addr) (W : World) (ha : W.cell? a = some (.pointer (some p))) :
    (ReflectliteValue.method (ReflectliteValue.valueError "reflectlite.Value.IsNil" 0) ReflectliteValue.isNil #[.agg #[.pointer (some ⟨2, 94, none⟩), .pointer (some a), .int .u64 150]]).run Tryz.prog W = .ok (.bool false) W := by
  change (ReflectliteValue.parts (.agg #[.pointer (some ⟨2, 94, none⟩), .pointer (some a), .int .u64 150]) >>= _).run _ _ = _
  simp only [Sem.run_bind, parts_K, Result.andThen]
  simp [ReflectliteValue.isNil, loadVar, isAgg, underlying, Tryz.underlying94, ha, Result.andThen]
theorem elemV_K (a p : Addr) (W : World) (ha : W.cell? a = some (.pointer (some p))) :
    (ReflectliteValue.method (ReflectliteValue.valueError "reflectlite.Value.Elem" 0) ReflectliteValue.elem #[.agg #[.pointer (some ⟨2, 94, none⟩), .pointer (some a), .int .u64 150]]).run Tryz.prog W
      = .ok (.agg #[.pointer (some ⟨2, 92, none⟩), .pointer (some p), .int .u64 386]) W := by
  change (ReflectliteValue.parts (.agg #[.pointer (some ⟨2, 94, none⟩), .pointer (some a), .int .u64 150]) >>= _).run _ _ = _
  simp only [Sem.run_bind, parts_K, Result.andThen]
  simp [ReflectliteValue.elem, loadVar, isAgg, underlying, Tryz.underlying94, ha, Result.andThen, elemOf_K, mk_K]
theorem set_K (ta b : Addr) (c : Int) (old : Value) (W : World) (hb : W.cell? b = some (.int .i64 c)) (ht : W.cell? ta = some old) (hf : W.frozen? ta = false) :
    (ReflectliteValue.set #[.agg #[.pointer (some ⟨2, 92, none⟩), .pointer (some ta), .int .u64 386], .agg #[.pointer (some ⟨2, 92, none⟩), .pointer (some b), .int .u64 130]]).run Tryz.prog W
      = .ok (.tuple #[]) (W.setCell ta (.int .i64 c)) := by
  change (ReflectliteValue.parts (.agg #[.pointer (some ⟨2, 92, none⟩), .pointer (some ta), .int .u64 386]) >>= fun _ => ReflectliteValue.parts (.agg #[.pointer (some ⟨2, 92, none⟩), .pointer (some b), .int .u64 130]) >>= fun _ => _).run _ _ = _
  simp only [Sem.run_bind, partsA_K, partsV_K, Result.andThen]
  simp [ReflectliteValue.flagAddr, loadVar, isAgg, underlying, Tryz.underlying92, hb, Result.andThen, direct_K, storeVar, Value.cells, storeCells, Addr.add]
  rw [run_store Tryz.prog W ta _ _ (by rfl)]
  simp [ht, hf]


/-! ### target F -/
theorem valueOf_F (t : Addr) (w : World) : (ReflectliteValue.unpack (.iface 148 (.pointer (some t)))).run Tryz.prog w
    = .ok (.agg #[.pointer (some ⟨2, 148, none⟩), .pointer (some ⟨w.heap.size, 0, none⟩), .int .u64 150]) (w.alloc (.cells #[.pointer (some t)] 148)) := by kernel_rfl
theorem type_F (a : Addr) (w : World) : (ReflectliteValue.methodAny (ReflectliteValue.valueError "reflectlite.Value.Type" 0) (fun t _ _ _ => ReflectliteType.toType t) #[.agg #[.pointer (some ⟨2, 148, none⟩), .pointer (some a), .int .u64 150]]).run Tryz.prog w
    = .ok (.iface 178 (.agg #[.pointer (some ⟨2, 148, none⟩)])) w := by kernel_rfl
theorem kindT_F (w : World) : ((ReflectliteType.abiMethod fun t => (fun a : Nat => Value.int IntKind.u8 (a : Int)) <$> Rtype.kind t) #[.pointer (some ⟨2, 148, none⟩)]).run Tryz.prog w = .ok (.int .u8 22) w := by kernel_rfl
theorem kindE_F (w : World) : ((ReflectliteType.abiMethod fun t => (fun a : Nat => Value.int IntKind.u8 (a : Int)) <$> Rtype.kind t) #[.pointer (some ⟨2, 97, none⟩)]).run Tryz.prog w = .ok (.int .u8 22) w := by kernel_rfl
theorem parts_F (a : Addr) (w : World) : (ReflectliteValue.parts (.agg #[.pointer (some ⟨2, 148, none⟩), .pointer (some a), .int .u64 150])).run Tryz.prog w = .ok (some (148, a, 150)) w := by kernel_rfl
theorem elem_F (w : World) : (ReflectliteType.method ReflectliteType.elem #[.agg #[.pointer (some ⟨2, 148, none⟩)]]).run Tryz.prog w = .ok (.iface 178 (.agg #[.pointer (some ⟨2, 97, none⟩)])) w := by kernel_rfl
theorem implements_F (w : World) : (ReflectliteType.relation "Implements" ReflectliteType.implements_ #[.agg #[.pointer (some ⟨2, 97, none⟩)], .iface 178 (.agg #[.pointer (some ⟨2, 31, none⟩)])]).run Tryz.prog w = .ok (.bool true) w := by kernel_rfl
theorem elemOf_F (w : World) : (Rtype.elem? 148).run Tryz.prog w = .ok (some 97) w := by kernel_rfl
theorem mk_F (p : Addr) (w : World) : (ReflectliteValue.mk 97 p ReflectliteValue.flagAddr).run Tryz.prog w = .ok (.agg #[.pointer (some ⟨2, 97, none⟩), .pointer (some p), .int .u64 406]) w := by kernel_rfl
theorem partsA_F (a : Addr) (w : World) : (ReflectliteValue.parts (.agg #[.pointer (some ⟨2, 97, none⟩), .pointer (some a), .int .u64 406])).run Tryz.prog w = .ok (some (97, a, 406)) w := by kernel_rfl
theorem partsV_F (a : Addr) (w : World) : (ReflectliteValue.parts (.agg #[.pointer (some ⟨2, 97, none⟩), .pointer (some a), .int .u64 150])).run Tryz.prog w = .ok (some (97, a, 150)) w := by kernel_rfl
theorem direct_F (w : World) : (Rtype.directlyAssignable 97 97).run Tryz.prog w = .ok true w := by kernel_rfl
theorem size_F (w : World) : (sizeOf 97).run Tryz.prog w = .ok 1 w := by kernel_rfl
theorem valueE_F (e : Addr) (w : World) : (ReflectliteValue.unpack (.iface 97 (.pointer (some e)))).run Tryz.prog w
    = .ok (.agg #[.pointer (some ⟨2, 97, none⟩), .pointer (some ⟨w.heap.size, 0, none⟩), .int .u64 150]) (w.alloc (.cells #[.pointer (some e)] 97)) := by kernel_rfl
theorem isNil_F (a p : Addr) (W : World) (ha : W.cell? a = some (.pointer (some p))) :
    (ReflectliteValue.method (ReflectliteValue.valueError "reflectlite.Value.IsNil" 0) ReflectliteValue.isNil #[.agg #[.pointer (some ⟨2, 148, none⟩), .pointer (some a), .int .u64 150]]).run Tryz.prog W = .ok (.bool false) W := by
  change (ReflectliteValue.parts (.agg #[.pointer (some ⟨2, 148, none⟩), .pointer (some a), .int .u64 150]) >>= _).run _ _ = _
  simp only [Sem.run_bind, parts_F, Result.andThen]
  simp [ReflectliteValue.isNil, loadVar, isAgg, underlying, Tryz.underlying148, ha, Result.andThen]
theorem elemV_F (a p : Addr) (W : World) (ha : W.cell? a = some (.pointer (some p))) :
    (ReflectliteValue.method (ReflectliteValue.valueError "reflectlite.Value.Elem" 0) ReflectliteValue.elem #[.agg #[.pointer (some ⟨2, 148, none⟩), .pointer (some a), .int .u64 150]]).run Tryz.prog W
      = .ok (.agg #[.pointer (some ⟨2, 97, none⟩), .pointer (some p), .int .u64 406]) W := by
  change (ReflectliteValue.parts (.agg #[.pointer (some ⟨2, 148, none⟩), .pointer (some a), .int .u64 150]) >>= _).run _ _ = _
  simp only [Sem.run_bind, parts_F, Result.andThen]
  simp [ReflectliteValue.elem, loadVar, isAgg, underlying, Tryz.underlying148, ha, Result.andThen, elemOf_F, mk_F]
theorem set_F (ta b : Addr) (e : Addr) (old : Value) (W : World) (hb : W.cell? b = some (.pointer (some e))) (ht : W.cell? ta = some old) (hf : W.frozen? ta = false) :
    (ReflectliteValue.set #[.agg #[.pointer (some ⟨2, 97, none⟩), .pointer (some ta), .int .u64 406], .agg #[.pointer (some ⟨2, 97, none⟩), .pointer (some b), .int .u64 150]]).run Tryz.prog W
      = .ok (.tuple #[]) (W.setCell ta (.pointer (some e))) := by
  change (ReflectliteValue.parts (.agg #[.pointer (some ⟨2, 97, none⟩), .pointer (some ta), .int .u64 406]) >>= fun _ => ReflectliteValue.parts (.agg #[.pointer (some ⟨2, 97, none⟩), .pointer (some b), .int .u64 150]) >>= fun _ => _).run _ _ = _
  simp only [Sem.run_bind, partsA_F, partsV_F, Result.andThen]
  simp [ReflectliteValue.flagAddr, loadVar, isAgg, underlying, Tryz.underlying97, hb, Result.andThen, direct_F, storeVar, Value.cells, storeCells, Addr.add]
  rw [run_store Tryz.prog W ta _ _ (by rfl)]
  simp [ht, hf]

end Go.Proofs.YtajfdachpdkbcaaGreatDoor.Flt
end

section
namespace Go.Proofs.YtajfdachpdkbcaaGreatDoor.Flt
open Go.RowKit Go.Extern.Stop Go.Stop Go.Extern Go.Proofs.YtajfdachpdkbcaaGreatDoor.Own

theorem unwrap_calls (b : Nat) (a x u : Value) (w : World) (h : w.heap[b]? = some (.cells #[a, x, u] 99 (0, 0))) :
    Calls Tryz.prog 204 #[.pointer (some ⟨b, 0, none⟩)] w fun e w' => e = .returned u ∧ w' = w := by
  have hc : w.cell? ⟨b, 2, none⟩ = some u := by rw [at_cell h]; rfl
  clear h
  go_enter Tryz.func204, Tryz.ntmps204
  go_wp2_with fail
  go_ret
  exact ⟨rfl, rfl⟩

theorem err_nil {w : World} {N : Nat} {v : Value} {l : List Lay} {c : Int} (h : Err w N v l c) : ∃ t u, v = .iface t u := by
  cases l with
  | nil => exact ⟨_, _, h⟩
  | cons x r => exact ⟨_, _, h.1⟩

/-- the Value of a pointer -/
def ptrV (T : TypeId) (b : Nat) : Value := .agg #[.pointer (some ⟨2, T, none⟩), .pointer (some ⟨b, 0, none⟩), .int .u64 150]
/-- a block of one cell, written -/
theorem one_set {w : World} {b : Nat} {old v : Value} {t : TypeId} (h : w.heap[b]? = some (.cells #[old] t (0, 0))) : (w.setCell ⟨b, 0, none⟩ v).heap[b]? = some (.cells #[v] t (0, 0)) := by
  have := at_set h 0 v
  simpa using this

set_option maxRecDepth 100000 in
set_option maxHeartbeats 4000000 in
/-- errors.as at a target of type *Kind -/
theorem as_kind (v : Value) (l : List Lay) (c : Int) (N tb vb : Nat) (old : Value) (w : World) (h : Err w N v l c) (hN : N ≤ w.heap.size) (ht : w.heap[tb]? = some (.cells #[old] 92 (0, 0))) (hv : w.cell? ⟨vb, 0, none⟩ = some (.pointer (some ⟨tb, 0, none⟩))) :
    Calls Tryz.prog 76 #[v, .iface 94 (.pointer (some ⟨tb, 0, none⟩)), .agg #[.pointer (some ⟨2, 94, none⟩), .pointer (some ⟨vb, 0, none⟩), .int .u64 150], .iface 178 (.agg #[.pointer (some ⟨2, 92, none⟩)])] w
      fun e w' => e = .returned (.bool true) ∧ Out (fun k => k = tb) w w' ∧ w'.heap[tb]? = some (.cells #[.int .i64 c] 92 (0, 0)) := by
  have h32 := @run_callFunc_extern Tryz.prog 73 _ (fun args => ReflectliteValue.unpack (args.getD 0 (.tuple #[]))) Tryz.func73 (by kernel_rfl) (by kernel_rfl) (by kernel_rfl) (by kernel_rfl)
  have h37 := @run_callFunc_extern Tryz.prog 102 _ ReflectliteType.typeOf Tryz.func102 (by kernel_rfl) (by kernel_rfl) (by kernel_rfl) (by kernel_rfl)
  have h71 := @run_callFunc_extern Tryz.prog 210 _ (ReflectliteType.relation "AssignableTo" ReflectliteType.assignableTo) Tryz.func210 (by kernel_rfl) (by kernel_rfl) (by kernel_rfl) (by kernel_rfl)
  have h41 := @run_callFunc_extern Tryz.prog 103 _ (ReflectliteValue.method (ReflectliteValue.valueError "reflectlite.Value.Elem" 0) ReflectliteValue.elem) Tryz.func103 (by kernel_rfl) (by kernel_rfl) (by kernel_rfl) (by kernel_rfl)
  have h42 := @run_callFunc_extern Tryz.prog 104 _ ReflectliteValue.set Tryz.func104 (by kernel_rfl) (by kernel_rfl) (by kernel_rfl) (by kernel_rfl)
  have tK := typeOf_K
  have tF := typeOf_F
  have mA := methodAssignableTo
  have mU := methodUnwrap
  have aK := assignable_KK
  have aF := assignable_FK
  have nA := noAs_F
  have hU := hasUnwrap_F
  have vE := valueE_K
  have hlt := at_lt ht
  have hvb := World.block_lt_of_cell? w _ hv
  change vb < _ at hvb
  have HE := Lib.hid h
  have HT := Lib.hid ht
  clear h ht
  go_enter Tryz.func76, Tryz.ntmps76
  go_wp2_with fail
  go_loopw [0] (fun u w2 => ∃ (M : Nat) (r : List Lay), Err w2 M u r c ∧ w2 = w.alloc (.cells #[.pointer (some ⟨2, 94, none⟩), .pointer (some ⟨vb, 0, none⟩), .int .u64 150] 139)) (fun u _ => deep u)
  case atStart => exact ⟨N, l, HE.out.below ((Below.refl _ _).alloc (Nat.le_refl _) _) hN, rfl⟩
  case round =>
    obtain ⟨M, r, he, rfl⟩ := hrel
    cases r with
    | nil =>
      obtain rfl : _ = Value.iface 92 (.int .i64 c) := he
      have el := elemV_K ⟨vb, 0, none⟩ ⟨tb, 0, none⟩ (w.alloc (.cells #[.pointer (some ⟨2, 94, none⟩), .pointer (some ⟨vb, 0, none⟩), .int .u64 150] 139)) (by rw [World.cell?_alloc_lt _ _ ⟨vb, 0, none⟩ hvb]; exact hv)
      have HH := at_old _ (.cells #[.int .i64 c] 92) (at_old w (.cells #[.pointer (some ⟨2, 94, none⟩), .pointer (some ⟨vb, 0, none⟩), .int .u64 150] 139) HT.out)
      have st := set_K ⟨tb, 0, none⟩ ⟨w.heap.size + 1, 0, none⟩ c old ((w.alloc (.cells #[.pointer (some ⟨2, 94, none⟩), .pointer (some ⟨vb, 0, none⟩), .int .u64 150] 139)).alloc (.cells #[.int .i64 c] 92))
        (by rw [World.cell?_alloc_at _ _ _ _ (by simp)]; rfl) (by rw [at_cell HH]; rfl) (at_frozen HH 0)
      have HS := Lib.hid (fun x y => at_old _ y (at_old _ x (one_set (v := .int .i64 c) HT.out)))
      clear HH
      go_wp2_with fail
      go_ret
      exact ⟨rfl, (((Out.refl (fun k => k = tb) w).setCell (p := ⟨tb, 0, none⟩) (fun _ => rfl) _).alloc _).alloc _, HS.out _ _⟩
    | cons x r =>
      obtain ⟨rfl, hx, u, hb, he'⟩ := he
      obtain ⟨ut, uv, rfl⟩ := err_nil he'
      have HE' := Lib.hid he'
      have HB := Lib.hid hb
      clear he' hb
      go_wp2_with (go_at_call 204; refine (unwrap_calls _ _ _ _ _ HB.out).mono ?_; rintro e w' ⟨rfl, rfl⟩)
      go_roundw
      case rel => exact ⟨x.blk, r, HE'.out, by first | rfl | trivial⟩
      case measure =>
        have := HE'.out
        cases r with
        | nil => rw [show Value.iface ut uv = _ from this]; simp [deep]
        | cons y s => rw [show Value.iface ut uv = _ from this.1]; have := this.2.1; simp [deep]; omega
set_option maxRecDepth 100000 in
set_option maxHeartbeats 4000000 in
/-- errors.as at a target of type **Fault, at a Fault -/
theorem as_fault (eb : Nat) (tb vb : Nat) (old : Value) (w : World) (ht : w.heap[tb]? = some (.cells #[old] 97 (0, 0))) (hv : w.cell? ⟨vb, 0, none⟩ = some (.pointer (some ⟨tb, 0, none⟩))) :
    Calls Tryz.prog 76 #[.iface 97 (.pointer (some ⟨eb, 0, none⟩)), .iface 148 (.pointer (some ⟨tb, 0, none⟩)), .agg #[.pointer (some ⟨2, 148, none⟩), .pointer (some ⟨vb, 0, none⟩), .int .u64 150], .iface 178 (.agg #[.pointer (some ⟨2, 97, none⟩)])] w
      fun e w' => e = .returned (.bool true) ∧ Out (fun k => k = tb) w w' ∧ w'.heap[tb]? = some (.cells #[.pointer (some ⟨eb, 0, none⟩)] 97 (0, 0)) := by
  have h32 := @run_callFunc_extern Tryz.prog 73 _ (fun args => ReflectliteValue.unpack (args.getD 0 (.tuple #[]))) Tryz.func73 (by kernel_rfl) (by kernel_rfl) (by kernel_rfl) (by kernel_rfl)
  have h37 := @run_callFunc_extern Tryz.prog 102 _ ReflectliteType.typeOf Tryz.func102 (by kernel_rfl) (by kernel_rfl) (by kernel_rfl) (by kernel_rfl)
  have h71 := @run_callFunc_extern Tryz.prog 210 _ (ReflectliteType.relation "AssignableTo" ReflectliteType.assignableTo) Tryz.func210 (by kernel_rfl) (by kernel_rfl) (by kernel_rfl) (by kernel_rfl)
  have h41 := @run_callFunc_extern Tryz.prog 103 _ (ReflectliteValue.method (ReflectliteValue.valueError "reflectlite.Value.Elem" 0) ReflectliteValue.elem) Tryz.func103 (by kernel_rfl) (by kernel_rfl) (by kernel_rfl) (by kernel_rfl)
  have h42 := @run_callFunc_extern Tryz.prog 104 _ ReflectliteValue.set Tryz.func104 (by kernel_rfl) (by kernel_rfl) (by kernel_rfl) (by kernel_rfl)
  have tF := typeOf_F
  have mA := methodAssignableTo
  have aF := assignable_FF
  have vE := valueE_F
  have hlt := at_lt ht
  have hvb := World.block_lt_of_cell? w _ hv
  change vb < _ at hvb
  have HT := Lib.hid ht
  clear ht
  have el := elemV_F ⟨vb, 0, none⟩ ⟨tb, 0, none⟩ (w.alloc (.cells #[.pointer (some ⟨2, 148, none⟩), .pointer (some ⟨vb, 0, none⟩), .int .u64 150] 139)) (by rw [World.cell?_alloc_lt _ _ ⟨vb, 0, none⟩ hvb]; exact hv)
  have HH := at_old _ (.cells #[.pointer (some ⟨eb, 0, none⟩)] 97) (at_old w (.cells #[.pointer (some ⟨2, 148, none⟩), .pointer (some ⟨vb, 0, none⟩), .int .u64 150] 139) HT.out)
  have st := set_F ⟨tb, 0, none⟩ ⟨w.heap.size + 1, 0, none⟩ ⟨eb, 0, none⟩ old ((w.alloc (.cells #[.pointer (some ⟨2, 148, none⟩), .pointer (some ⟨vb, 0, none⟩), .int .u64 150] 139)).alloc (.cells #[.pointer (some ⟨eb, 0, none⟩)] 97))
    (by rw [World.cell?_alloc_at _ _ _ _ (by simp)]; rfl) (by rw [at_cell HH]; rfl) (at_frozen HH 0)
  have HS := Lib.hid (fun x y => at_old _ y (at_old _ x (one_set (v := .pointer (some ⟨eb, 0, none⟩)) HT.out)))
  clear HH
  go_enter Tryz.func76, Tryz.ntmps76
  go_wp2_with fail
  refine wp_loop_rounds 1 ?_
  rw [rounds_succ]
  go_wp2_with fail
  go_ret
  exact ⟨rfl, (((Out.refl (fun k => k = tb) w).setCell (p := ⟨tb, 0, none⟩) (fun _ => rfl) _).alloc _).alloc _, HS.out _ _⟩

set_option maxRecDepth 100000 in
set_option maxHeartbeats 4000000 in
/-- errors.as at a target of type **Fault, at a Kind -/
theorem as_miss (c : Int) (t x y z : Value) (w : World) :
    Calls Tryz.prog 76 #[.iface 92 (.int .i64 c), t, .agg #[x, y, z], .iface 178 (.agg #[.pointer (some ⟨2, 97, none⟩)])] w
      fun e w' => e = .returned (.bool false) ∧ Below w.heap.size w w' := by
  have h37 := @run_callFunc_extern Tryz.prog 102 _ ReflectliteType.typeOf Tryz.func102 (by kernel_rfl) (by kernel_rfl) (by kernel_rfl) (by kernel_rfl)
  have h71 := @run_callFunc_extern Tryz.prog 210 _ (ReflectliteType.relation "AssignableTo" ReflectliteType.assignableTo) Tryz.func210 (by kernel_rfl) (by kernel_rfl) (by kernel_rfl) (by kernel_rfl)
  have tK := typeOf_K
  have mA := methodAssignableTo
  have aK := assignable_KF
  have nA := noAs_K
  have nU := noUnwrap_K
  have nV := noUnwraps_K
  go_enter Tryz.func76, Tryz.ntmps76
  go_wp2_with fail
  refine wp_loop_rounds 1 ?_
  rw [rounds_succ]
  go_wp2_with fail
  go_ret
  exact ⟨rfl, (Below.refl _ _).alloc (Nat.le_refl _) _⟩

end Go.Proofs.YtajfdachpdkbcaaGreatDoor.Flt
end

section
namespace Go.Proofs.YtajfdachpdkbcaaGreatDoor.Flt
open Go.RowKit Go.Extern.Stop Go.Stop Go.Extern Go.Proofs.YtajfdachpdkbcaaGreatDoor.Own

/-- errors.As of nil -/
theorem asNil_calls (t : Value) (w : World) : Calls Tryz.prog 42 #[.nilIface, t] w fun e w' => e = .returned (.bool false) ∧ w' = w := by
  go_enter Tryz.func42, Tryz.ntmps42
  go_wp2
  go_ret
  exact ⟨rfl, rfl⟩

set_option maxRecDepth 100000 in
set_option maxHeartbeats 4000000 in
/-- errors.As at a *Kind: the Kind at the end -/
theorem asKind_calls (v : Value) (l : List Lay) (c : Int) (N : Nat) (w : World) (h : Err w N v l c) (hN : N ≤ w.heap.size) (tb : Nat) (old : Value) (hT : Tab w) (ht : w.heap[tb]? = some (.cells #[old] 92 (0, 0))) :
    Calls Tryz.prog 42 #[v, .iface 94 (.pointer (some ⟨tb, 0, none⟩))] w
      fun e w' => e = .returned (.bool true) ∧ Out (fun k => k = tb) w w' ∧ w'.heap[tb]? = some (.cells #[.int .i64 c] 92 (0, 0)) := by
  have h32 := @run_callFunc_extern Tryz.prog 73 _ (fun args => ReflectliteValue.unpack (args.getD 0 (.tuple #[]))) Tryz.func73 (by kernel_rfl) (by kernel_rfl) (by kernel_rfl) (by kernel_rfl)
  have h33 := @run_callFunc_extern Tryz.prog 74 _ (ReflectliteValue.methodAny (ReflectliteValue.valueError "reflectlite.Value.Type" 0) (fun t _ _ _ => ReflectliteType.toType t)) Tryz.func74 (by kernel_rfl) (by kernel_rfl) (by kernel_rfl) (by kernel_rfl)
  have h34 := @run_callFunc_extern Tryz.prog 75 _ (ReflectliteValue.method (ReflectliteValue.valueError "reflectlite.Value.IsNil" 0) ReflectliteValue.isNil) Tryz.func75 (by kernel_rfl) (by kernel_rfl) (by kernel_rfl) (by kernel_rfl)
  have h64 := @run_callFunc_extern Tryz.prog 199 _ (ReflectliteType.abiMethod fun t => do pure (.int .u8 (← Rtype.kind t))) Tryz.func199 (by kernel_rfl) (by kernel_rfl) (by kernel_rfl) (by kernel_rfl)
  have h73 := @run_callFunc_extern Tryz.prog 212 _ (ReflectliteType.method ReflectliteType.elem) Tryz.func212 (by kernel_rfl) (by kernel_rfl) (by kernel_rfl) (by kernel_rfl)
  have h74 := @run_callFunc_extern Tryz.prog 213 _ (ReflectliteType.relation "Implements" ReflectliteType.implements_) Tryz.func213 (by kernel_rfl) (by kernel_rfl) (by kernel_rfl) (by kernel_rfl)
  have f32 := valueOf_K
  have f33 := type_K
  have mK := methodKind
  have mE := methodElem
  have mI := methodImplements
  have kT := kindT_K
  have kE := kindE_K
  have eT := elem_K
  have iE := implements_K
  have HW := at_new (w.alloc (.cells #[.pointer (some ⟨tb, 0, none⟩)] 94)) (.cells #[.pointer (some ⟨2, 94, none⟩), .pointer (some ⟨w.heap.size, 0, none⟩), .int .u64 150] 139)
  have HV := at_old _ (.cells #[.pointer (some ⟨2, 94, none⟩), .pointer (some ⟨w.heap.size, 0, none⟩), .int .u64 150] 139) (at_new w (.cells #[.pointer (some ⟨tb, 0, none⟩)] 94))
  have HT := Lib.hid (at_old _ (.cells #[.pointer (some ⟨2, 94, none⟩), .pointer (some ⟨w.heap.size, 0, none⟩), .int .u64 150] 139) (at_old w (.cells #[.pointer (some ⟨tb, 0, none⟩)] 94) ht))
  have n8 := isNil_K ⟨w.heap.size, 0, none⟩ ⟨tb, 0, none⟩ ((w.alloc (.cells #[.pointer (some ⟨tb, 0, none⟩)] 94)).alloc (.cells #[.pointer (some ⟨2, 94, none⟩), .pointer (some ⟨w.heap.size, 0, none⟩), .int .u64 150] 139)) (by rw [at_cell HV]; rfl)
  have hg := World.cell?_alloc_lt w (.cells #[.pointer (some ⟨tb, 0, none⟩)] 94) ⟨0, 0, none⟩ hT.lt
  have hg2 : ((w.alloc (.cells #[.pointer (some ⟨tb, 0, none⟩)] 94)).alloc (.cells #[.pointer (some ⟨2, 94, none⟩), .pointer (some ⟨w.heap.size, 0, none⟩), .int .u64 150] 139)).cell? ⟨0, 0, none⟩ = some (.iface 178 (.agg #[.pointer (some ⟨2, 31, none⟩)])) := by
    rw [World.cell?_alloc_lt _ _ ⟨0, 0, none⟩ (by have := hT.lt; simp <;> omega), hg]; exact hT.et
  have HVc : ((w.alloc (.cells #[.pointer (some ⟨tb, 0, none⟩)] 94)).alloc (.cells #[.pointer (some ⟨2, 94, none⟩), .pointer (some ⟨w.heap.size, 0, none⟩), .int .u64 150] 139)).cell? ⟨w.heap.size, 0, none⟩ = some (.pointer (some ⟨tb, 0, none⟩)) := by rw [at_cell HV]; rfl
  have HO := Lib.hid (fun S => ((Out.refl S w).alloc (.cells #[.pointer (some ⟨tb, 0, none⟩)] 94)).alloc (.cells #[.pointer (some ⟨2, 94, none⟩), .pointer (some ⟨w.heap.size, 0, none⟩), .int .u64 150] 139))
  obtain ⟨ut, uv, rfl⟩ := err_nil h
  have HE := Lib.hid (h.same (w' := ((w.alloc (.cells #[.pointer (some ⟨tb, 0, none⟩)] 94)).alloc (.cells #[.pointer (some ⟨2, 94, none⟩), .pointer (some ⟨w.heap.size, 0, none⟩), .int .u64 150] 139))) fun k o _ ho => at_old _ (.cells #[.pointer (some ⟨2, 94, none⟩), .pointer (some ⟨w.heap.size, 0, none⟩), .int .u64 150] 139) (at_old w (.cells #[.pointer (some ⟨tb, 0, none⟩)] 94) ho))
  have HN := Lib.hid (show N ≤ ((w.alloc (.cells #[.pointer (some ⟨tb, 0, none⟩)] 94)).alloc (.cells #[.pointer (some ⟨2, 94, none⟩), .pointer (some ⟨w.heap.size, 0, none⟩), .int .u64 150] 139)).heap.size by simp; omega)
  clear h
  have HVC := Lib.hid HVc
  clear hg HW HV ht HVc
  go_enter Tryz.func42, Tryz.ntmps42
  go_wp2_with (go_at_call 76; refine (as_kind _ l c N tb w.heap.size old _ HE.out HN.out HT.out HVC.out).mono ?_; rintro e w' ⟨rfl, ho, hh⟩; replace ho := Lib.hid ho; replace hh := Lib.hid hh)
  go_ret
  exact ⟨rfl, (HO.out _).trans ho.out (fun _ _ h => h), hh.out⟩

set_option maxRecDepth 100000 in
set_option maxHeartbeats 4000000 in
/-- errors.As at a **Fault: the Fault itself -/
theorem asFault_calls (eb : Nat) (w : World) (tb : Nat) (old : Value) (hT : Tab w) (ht : w.heap[tb]? = some (.cells #[old] 97 (0, 0))) :
    Calls Tryz.prog 42 #[.iface 97 (.pointer (some ⟨eb, 0, none⟩)), .iface 148 (.pointer (some ⟨tb, 0, none⟩))] w
      fun e w' => e = .returned (.bool true) ∧ Out (fun k => k = tb) w w' ∧ w'.heap[tb]? = some (.cells #[.pointer (some ⟨eb, 0, none⟩)] 97 (0, 0)) := by
  have h32 := @run_callFunc_extern Tryz.prog 73 _ (fun args => ReflectliteValue.unpack (args.getD 0 (.tuple #[]))) Tryz.func73 (by kernel_rfl) (by kernel_rfl) (by kernel_rfl) (by kernel_rfl)
  have h33 := @run_callFunc_extern Tryz.prog 74 _ (ReflectliteValue.methodAny (ReflectliteValue.valueError "reflectlite.Value.Type" 0) (fun t _ _ _ => ReflectliteType.toType t)) Tryz.func74 (by kernel_rfl) (by kernel_rfl) (by kernel_rfl) (by kernel_rfl)
  have h34 := @run_callFunc_extern Tryz.prog 75 _ (ReflectliteValue.method (ReflectliteValue.valueError "reflectlite.Value.IsNil" 0) ReflectliteValue.isNil) Tryz.func75 (by kernel_rfl) (by kernel_rfl) (by kernel_rfl) (by kernel_rfl)
  have h64 := @run_callFunc_extern Tryz.prog 199 _ (ReflectliteType.abiMethod fun t => do pure (.int .u8 (← Rtype.kind t))) Tryz.func199 (by kernel_rfl) (by kernel_rfl) (by kernel_rfl) (by kernel_rfl)
  have h73 := @run_callFunc_extern Tryz.prog 212 _ (ReflectliteType.method ReflectliteType.elem) Tryz.func212 (by kernel_rfl) (by kernel_rfl) (by kernel_rfl) (by kernel_rfl)
  have h74 := @run_callFunc_extern Tryz.prog 213 _ (ReflectliteType.relation "Implements" ReflectliteType.implements_) Tryz.func213 (by kernel_rfl) (by kernel_rfl) (by kernel_rfl) (by kernel_rfl)
  have f32 := valueOf_F
  have f33 := type_F
  have mK := methodKind
  have mE := methodElem
  have mI := methodImplements
  have kT := kindT_F
  have kE := kindE_F
  have eT := elem_F
  have iE := implements_F
  have HW := at_new (w.alloc (.cells #[.pointer (some ⟨tb, 0, none⟩)] 148)) (.cells #[.pointer (some ⟨2, 148, none⟩), .pointer (some ⟨w.heap.size, 0, none⟩), .int .u64 150] 139)
  have HV := at_old _ (.cells #[.pointer (some ⟨2, 148, none⟩), .pointer (some ⟨w.heap.size, 0, none⟩), .int .u64 150] 139) (at_new w (.cells #[.pointer (some ⟨tb, 0, none⟩)] 148))
  have HT := Lib.hid (at_old _ (.cells #[.pointer (some ⟨2, 148, none⟩), .pointer (some ⟨w.heap.size, 0, none⟩), .int .u64 150] 139) (at_old w (.cells #[.pointer (some ⟨tb, 0, none⟩)] 148) ht))
  have n8 := isNil_F ⟨w.heap.size, 0, none⟩ ⟨tb, 0, none⟩ ((w.alloc (.cells #[.pointer (some ⟨tb, 0, none⟩)] 148)).alloc (.cells #[.pointer (some ⟨2, 148, none⟩), .pointer (some ⟨w.heap.size, 0, none⟩), .int .u64 150] 139)) (by rw [at_cell HV]; rfl)
  have hg := World.cell?_alloc_lt w (.cells #[.pointer (some ⟨tb, 0, none⟩)] 148) ⟨0, 0, none⟩ hT.lt
  have hg2 : ((w.alloc (.cells #[.pointer (some ⟨tb, 0, none⟩)] 148)).alloc (.cells #[.pointer (some ⟨2, 148, none⟩), .pointer (some ⟨w.heap.size, 0, none⟩), .int .u64 150] 139)).cell? ⟨0, 0, none⟩ = some (.iface 178 (.agg #[.pointer (some ⟨2, 31, none⟩)])) := by
    rw [World.cell?_alloc_lt _ _ ⟨0, 0, none⟩ (by have := hT.lt; simp <;> omega), hg]; exact hT.et
  have HVc : ((w.alloc (.cells #[.pointer (some ⟨tb, 0, none⟩)] 148)).alloc (.cells #[.pointer (some ⟨2, 148, none⟩), .pointer (some ⟨w.heap.size, 0, none⟩), .int .u64 150] 139)).cell? ⟨w.heap.size, 0, none⟩ = some (.pointer (some ⟨tb, 0, none⟩)) := by rw [at_cell HV]; rfl
  have HO := Lib.hid (fun S => ((Out.refl S w).alloc (.cells #[.pointer (some ⟨tb, 0, none⟩)] 148)).alloc (.cells #[.pointer (some ⟨2, 148, none⟩), .pointer (some ⟨w.heap.size, 0, none⟩), .int .u64 150] 139))
  have HVC := Lib.hid HVc
  clear hg HW HV ht HVc
  go_enter Tryz.func42, Tryz.ntmps42
  go_wp2_with (go_at_call 76; refine (as_fault eb tb w.heap.size old _ HT.out HVC.out).mono ?_; rintro e w' ⟨rfl, ho, hh⟩; replace ho := Lib.hid ho; replace hh := Lib.hid hh)
  go_ret
  exact ⟨rfl, (HO.out _).trans ho.out (fun _ _ h => h), hh.out⟩

set_option maxRecDepth 100000 in
set_option maxHeartbeats 4000000 in
/-- errors.As at a **Fault: a Kind is none -/
theorem asMiss_calls (c : Int) (w : World) (tb : Nat) (old : Value) (hT : Tab w) (ht : w.heap[tb]? = some (.cells #[old] 97 (0, 0))) :
    Calls Tryz.prog 42 #[.iface 92 (.int .i64 c), .iface 148 (.pointer (some ⟨tb, 0, none⟩))] w
      fun e w' => e = .returned (.bool false) ∧ Below w.heap.size w w' := by
  have h32 := @run_callFunc_extern Tryz.prog 73 _ (fun args => ReflectliteValue.unpack (args.getD 0 (.tuple #[]))) Tryz.func73 (by kernel_rfl) (by kernel_rfl) (by kernel_rfl) (by kernel_rfl)
  have h33 := @run_callFunc_extern Tryz.prog 74 _ (ReflectliteValue.methodAny (ReflectliteValue.valueError "reflectlite.Value.Type" 0) (fun t _ _ _ => ReflectliteType.toType t)) Tryz.func74 (by kernel_rfl) (by kernel_rfl) (by kernel_rfl) (by kernel_rfl)
  have h34 := @run_callFunc_extern Tryz.prog 75 _ (ReflectliteValue.method (ReflectliteValue.valueError "reflectlite.Value.IsNil" 0) ReflectliteValue.isNil) Tryz.func75 (by kernel_rfl) (by kernel_rfl) (by kernel_rfl) (by kernel_rfl)
  have h64 := @run_callFunc_extern Tryz.prog 199 _ (ReflectliteType.abiMethod fun t => do pure (.int .u8 (← Rtype.kind t))) Tryz.func199 (by kernel_rfl) (by kernel_rfl) (by kernel_rfl) (by kernel_rfl)
  have h73 := @run_callFunc_extern Tryz.prog 212 _ (ReflectliteType.method ReflectliteType.elem) Tryz.func212 (by kernel_rfl) (by kernel_rfl) (by kernel_rfl) (by kernel_rfl)
  have h74 := @run_callFunc_extern Tryz.prog 213 _ (ReflectliteType.relation "Implements" ReflectliteType.implements_) Tryz.func213 (by kernel_rfl) (by kernel_rfl) (by kernel_rfl) (by kernel_rfl)
  have f32 := valueOf_F
  have f33 := type_F
  have mK := methodKind
  have mE := methodElem
  have mI := methodImplements
  have kT := kindT_F
  have kE := kindE_F
  have eT := elem_F
  have iE := implements_F
  have HW := at_new (w.alloc (.cells #[.pointer (some ⟨tb, 0, none⟩)] 148)) (.cells #[.pointer (some ⟨2, 148, none⟩), .pointer (some ⟨w.heap.size, 0, none⟩), .int .u64 150] 139)
  have HV := at_old _ (.cells #[.pointer (some ⟨2, 148, none⟩), .pointer (some ⟨w.heap.size, 0, none⟩), .int .u64 150] 139) (at_new w (.cells #[.pointer (some ⟨tb, 0, none⟩)] 148))
  have HT := Lib.hid (at_old _ (.cells #[.pointer (some ⟨2, 148, none⟩), .pointer (some ⟨w.heap.size, 0, none⟩), .int .u64 150] 139) (at_old w (.cells #[.pointer (some ⟨tb, 0, none⟩)] 148) ht))
  have n8 := isNil_F ⟨w.heap.size, 0, none⟩ ⟨tb, 0, none⟩ ((w.alloc (.cells #[.pointer (some ⟨tb, 0, none⟩)] 148)).alloc (.cells #[.pointer (some ⟨2, 148, none⟩), .pointer (some ⟨w.heap.size, 0, none⟩), .int .u64 150] 139)) (by rw [at_cell HV]; rfl)
  have hg := World.cell?_alloc_lt w (.cells #[.pointer (some ⟨tb, 0, none⟩)] 148) ⟨0, 0, none⟩ hT.lt
  have hg2 : ((w.alloc (.cells #[.pointer (some ⟨tb, 0, none⟩)] 148)).alloc (.cells #[.pointer (some ⟨2, 148, none⟩), .pointer (some ⟨w.heap.size, 0, none⟩), .int .u64 150] 139)).cell? ⟨0, 0, none⟩ = some (.iface 178 (.agg #[.pointer (some ⟨2, 31, none⟩)])) := by
    rw [World.cell?_alloc_lt _ _ ⟨0, 0, none⟩ (by have := hT.lt; simp <;> omega), hg]; exact hT.et
  have HVc : ((w.alloc (.cells #[.pointer (some ⟨tb, 0, none⟩)] 148)).alloc (.cells #[.pointer (some ⟨2, 148, none⟩), .pointer (some ⟨w.heap.size, 0, none⟩), .int .u64 150] 139)).cell? ⟨w.heap.size, 0, none⟩ = some (.pointer (some ⟨tb, 0, none⟩)) := by rw [at_cell HV]; rfl
  have HO := Lib.hid (fun S => ((Out.refl S w).alloc (.cells #[.pointer (some ⟨tb, 0, none⟩)] 148)).alloc (.cells #[.pointer (some ⟨2, 148, none⟩), .pointer (some ⟨w.heap.size, 0, none⟩), .int .u64 150] 139))
  have hsz := Lib.hid (show ((w.alloc (.cells #[.pointer (some ⟨tb, 0, none⟩)] 148)).alloc (.cells #[.pointer (some ⟨2, 148, none⟩), .pointer (some ⟨w.heap.size, 0, none⟩), .int .u64 150] 139)).heap.size = w.heap.size + 1 + 1 by simp)
  have HBB := Lib.hid (((Below.refl w.heap.size w).alloc (Nat.le_refl _) (.cells #[.pointer (some ⟨tb, 0, none⟩)] 148)).alloc (by simp) (.cells #[.pointer (some ⟨2, 148, none⟩), .pointer (some ⟨w.heap.size, 0, none⟩), .int .u64 150] 139))
  have HVC := Lib.hid HVc
  clear hg HW HV ht HVc
  go_enter Tryz.func42, Tryz.ntmps42
  go_wp2_with (go_at_call 76; refine (as_miss c _ _ _ _ _).mono ?_; rintro e w' ⟨rfl, ho⟩; replace ho := Lib.hid ho)
  go_ret
  exact ⟨rfl, HBB.out.trans (ho.out.mono (by have := hsz.out; omega))⟩

end Go.Proofs.YtajfdachpdkbcaaGreatDoor.Flt
end

section
namespace Go.Proofs.YtajfdachpdkbcaaGreatDoor.Flt
open Go.RowKit Go.Proofs.YtajfdachpdkbcaaGreatDoor.Own

theorem wrap_nil (n s : Value) (w : World) :
    Calls Tryz.prog 105 #[.nilIface, n, s] w fun e w' => e = .returned .nilIface ∧ w = w' := by
  go_enter Tryz.func105, Tryz.ntmps105
  go_wp2_with fail
  go_ret
  exact ⟨rfl, rfl⟩
theorem wrap_some (t : TypeId) (v : Value) (n : Int) (s : ByteArray) (w : World) :
    Calls Tryz.prog 105 #[.iface t v, .int .i64 n, .string s] w fun e w' => e = .returned (.iface 97 (.pointer (some ⟨w.heap.size, 0, none⟩))) ∧ w' = w.alloc (.cells #[.int .i64 n, .string s, .iface t v] 99) := by
  go_enter Tryz.func105, Tryz.ntmps105
  go_wp2_with fail
  go_ret
  exact ⟨rfl, rfl⟩
theorem new_nil (n s : Value) (w : World) :
    Calls Tryz.prog 77 #[.int .i64 0, n, s] w fun e w' => e = .returned .nilIface ∧ w = w' := by
  go_enter Tryz.func77, Tryz.ntmps77
  go_wp2_with fail
  go_ret
  exact ⟨rfl, rfl⟩
theorem new_some (c n : Int) (s : ByteArray) (hc : c ≠ 0) (w : World) :
    Calls Tryz.prog 77 #[.int .i64 c, .int .i64 n, .string s] w fun e w' => e = .returned (.iface 97 (.pointer (some ⟨w.heap.size, 0, none⟩))) ∧ w' = w.alloc (.cells #[.int .i64 n, .string s, .iface 92 (.int .i64 c)] 99) := by
  have hb : (c == 0) = false := by simpa using hc
  clear hc
  go_enter Tryz.func77, Tryz.ntmps77
  go_wp2_with (go_at_call 105; refine (wrap_some _ _ _ _ _).mono ?_; rintro e w' ⟨rfl, rfl⟩)
  go_ret
  exact ⟨rfl, rfl⟩
/-- what is wrapped -/
theorem Err.wrap {w : World} {N : Nat} {v : Value} {l : List Lay} {c : Int} (h : Err w N v l c) (hN : N ≤ w.heap.size) (n : Int) (s : ByteArray) :
    Err (w.alloc (.cells #[.int .i64 n, .string s, v] 99)) (w.heap.size + 1) (.iface 97 (.pointer (some ⟨w.heap.size, 0, none⟩))) (⟨w.heap.size, n, s.data.toList⟩ :: l) c :=
  ⟨rfl, Nat.lt_succ_self _, v, at_new w _, (h.below ((Below.refl _ _).alloc (Nat.le_refl _) _) hN).more hN⟩

/-- an error, or none -/
def ErrN (w : World) (N : Nat) (v : Value) (l : List Lay) (c : Int) : Prop := (v = .nilIface ∧ l = [] ∧ c = 0) ∨ Err w N v l c
theorem ErrN.same {w w' : World} {l : List Lay} {N : Nat} {v : Value} {c : Int} (h : ErrN w N v l c) (hs : ∀ k o, k < N → w.heap[k]? = some o → w'.heap[k]? = some o) : ErrN w' N v l c := h.imp id fun h => h.same hs
theorem ErrN.below {w w' : World} {B N : Nat} {v : Value} {l : List Lay} {c : Int} (h : ErrN w N v l c) (hb : Below B w w') (hN : N ≤ B) : ErrN w' N v l c := h.imp id fun h => h.below hb hN

set_option maxHeartbeats 1000000 in
theorem of_calls (v : Value) (l : List Lay) (c : Int) (N : Nat) (w : World) (h : ErrN w N v l c) (hN : N ≤ w.heap.size) (hT : Tab w) :
    Calls Tryz.prog 16 #[v] w fun e w' => e = .returned (.int .i64 c) ∧ Below w.heap.size w w' := by
  rcases h with ⟨rfl, rfl, rfl⟩ | h
  · go_enter Tryz.func16, Tryz.ntmps16
    go_wp2_with fail
    go_ret
    exact ⟨rfl, Below.refl _ _⟩
  · obtain ⟨ut, uv, rfl⟩ := err_nil h
    have hb0 : Below w.heap.size w (w.alloc (.cells #[.int .i64 0] 92)) := (Below.refl _ _).alloc (Nat.le_refl _) _
    have HE := Lib.hid (h.below hb0 hN)
    have HN := Lib.hid (show N ≤ (w.alloc (.cells #[.int .i64 0] 92)).heap.size by simp; omega)
    have HT := Lib.hid (hT.below hb0)
    have HK := Lib.hid (at_new w (.cells #[.int .i64 0] 92))
    have HB := Lib.hid hb0
    have HS := Lib.hid (show w.heap.size ≤ (w.alloc (.cells #[.int .i64 0] 92)).heap.size by simp)
    clear h hb0 hT
    go_enter Tryz.func16, Tryz.ntmps16
    go_wp2_with (go_at_call 42; refine (asKind_calls _ l c N _ HE.out HN.out w.heap.size _ HT.out HK.out).mono ?_; rintro e w' ⟨rfl, ho, hh⟩; have hc := (at_cell hh 0); replace ho := Lib.hid ho; clear hh; simp only [List.getElem?_toArray, List.getElem?_cons_zero] at hc)
    go_ret
    exact ⟨rfl, HB.out.trans (ho.out.below HS.out (fun i hi => by omega))⟩

end Go.Proofs.YtajfdachpdkbcaaGreatDoor.Flt
end

section
namespace Go.Proofs.YtajfdachpdkbcaaGreatDoor.Flt
open Go.RowKit Go.Proofs.YtajfdachpdkbcaaGreatDoor.Own

/-- a slice of one-cell values -/
structure Row1 (w : World) (p : Option Addr) (c : Nat) (xs : List Value) : Prop where
  cap : xs.length ≤ c
  max : c ≤ maxLen
  cells : xs = [] ∨ ∃ b, p = some ⟨b, 0, none⟩ ∧ b < w.heap.size ∧ ∀ i x, xs[i]? = some x → w.cell? ⟨b, i, none⟩ = some x
theorem Row1.below {w w' : World} {p : Option Addr} {c : Nat} {xs : List Value} (h : Row1 w p c xs) (hb : Below w.heap.size w w') : Row1 w' p c xs :=
  ⟨h.cap, h.max, h.cells.imp id fun ⟨b, e, hl, k⟩ => ⟨b, e, Nat.lt_of_lt_of_le hl hb.size, fun i x hx => (hb.cell (p := ⟨b, i, none⟩) hl).trans (k i x hx)⟩⟩
theorem owns_row {w : World} {B : Nat} {e : TypeId} {v : Value} {n : Nat} {xs : List Value} (h : w.ownsRow B e 1 v n xs) (hn : n = xs.length) : ∃ p c, v = .slice p n c ∧ Row1 w p c xs := by
  rcases h.2 with ⟨rfl, h0⟩ | ⟨g, cap, cur, rfl, _, hh, h3, h4, _⟩
  · obtain rfl : n = 0 := h0
    exact ⟨none, 0, rfl, by omega, by unfold maxLen; omega, .inl (List.eq_nil_of_length_eq_zero hn.symm)⟩
  · refine ⟨_, cap, rfl, by omega, h4, .inr ⟨g, rfl, at_lt hh, fun i x hx => ?_⟩⟩
    have hc := @World.ownsRow.cells _ _ _ _ _ _ _ h
    have := hc (g := g) rfl i x hx
    rwa [add0] at this
theorem own_out {w w' : World} {B e size n : Nat} {v : Value} {xs : List Value} {S : Nat → Prop} (h : w.ownsRow B e size v n xs) (hb : Out S w w') (hS : ∀ i, S i → i < B) : w'.ownsRow B e size v n xs := by
  refine ⟨h.1, ?_⟩
  rcases h.2 with h0 | ⟨g, cap, cur, hv, hg, hh, r⟩
  · exact .inl h0
  · exact .inr ⟨g, cap, cur, hv, hg, hb.at_ hh (fun hs => by have := hS _ hs; omega), r⟩

def pv (l : List Lay) : List Value := l.map fun x => .pointer (some ⟨x.blk, 0, none⟩)
theorem pv_len (l : List Lay) : (pv l).length = l.length := by simp [pv]
theorem pv_app (l : List Lay) (x : Lay) : pv (l ++ [x]) = pv l ++ [.pointer (some ⟨x.blk, 0, none⟩)] := by simp [pv]
theorem info_ptr : (Tryz.prog.info? 97).map (fun i => (i.zero, i.size, i.bytes)) = some (some (.pointer none), 1, 8) := by kernel_rfl

def FaultsPost (w : World) (l : List Lay) (e : Ending) (w' : World) : Prop :=
  ∃ p c, e = .returned (.slice p l.length c) ∧ Row1 w' p c (pv l) ∧ Below w.heap.size w w'

structure FltAt (w wr : World) (l : List Lay) (c : Int) (u v : Value) (done rest : List Lay) : Prop where
  parts : l = done ++ rest
  err : ErrN wr w.heap.size u rest c
  own : wr.ownsRow (w.heap.size + 1) 97 1 v done.length (pv done)
  below : Below w.heap.size w wr
  f : ∃ old, wr.heap[w.heap.size]? = some (.cells #[old] 97 (0, 0))
theorem FltAt.end_ {w wr w' : World} {l : List Lay} {c : Int} {u v : Value} {done : List Lay} (h : FltAt w wr l c u v done []) (hb : Below wr.heap.size wr w') : FaultsPost w l (.returned v) w' := by
  obtain rfl : l = done := by simpa using h.parts
  obtain ⟨p, cc, e, hr⟩ := owns_row h.own (pv_len _).symm
  exact ⟨p, cc, by rw [e], hr.below hb, h.below.trans (hb.mono h.below.size)⟩
theorem one_new (w : World) (x : Value) (T : TypeId) (g : Nat) (hg : g = w.heap.size) : ∀ ad, some (⟨g, 0, none⟩ : Addr) = some ad → ∀ j u, [x][j]? = some u → (w.alloc (.cells #[x] T (0, 0))).cell? (ad.add j) = some u := by
  subst hg
  rintro ad ⟨⟩ j u hu
  rw [add0, at_cell (at_new w _)]
  simpa using hu
theorem FltAt.step {w wr w5 w1 : World} {l : List Lay} {c : Int} {v v' : Value} {done r : List Lay} {x : Lay} {un : Value} (h : FltAt w wr l c (.iface 97 (.pointer (some ⟨x.blk, 0, none⟩))) v done (x :: r))
    (hx : x.blk < w.heap.size) (he : Err wr x.blk un r c) (ho : Out (fun k => k = w.heap.size) wr w5) (hf : w5.heap[w.heap.size]? = some (.cells #[.pointer (some ⟨x.blk, 0, none⟩)] 97 (0, 0)))
    (hown : w1.ownsRow (w.heap.size + 1) 97 1 v' (done.length + 1) (pv done ++ [.pointer (some ⟨x.blk, 0, none⟩)])) (hg : w5.grownBy w1 v.ownBlock) :
    FltAt w w1 l c un v' (done ++ [x]) r := by
  have hs := h.below.size
  have hs5 := ho.size
  have hlt := at_lt hf
  have hb5 : Below w.heap.size w w5 := h.below.trans (ho.below hs (fun i hi => by omega))
  have hb1 : Below w.heap.size w w1 := hb5.grown hg (by omega) (fun k hk => by have := (World.ownsRow.lt h.own k hk).1; omega)
  have h51 : Below (w.heap.size + 1) w5 w1 := (Below.refl _ _).grown hg (by omega) (fun k hk => (World.ownsRow.lt h.own k hk).1)
  refine ⟨by rw [h.parts]; simp, .inr ?_, ?_, hb1, _, (h51.block _ (by omega)).trans hf⟩
  · exact ((he.more (N' := w.heap.size) (by omega)).out ho (fun i hi => by omega)).below h51 (by omega)
  · rw [List.length_append, pv_app]; exact hown

theorem cells_kept {w5 w1 wr : World} {B b n : Nat} {e : TypeId} {v p a x un : Value} {xs : List Value} {t t' : TypeId} (hf : w5.heap[B]? = some (.cells #[p] t (0, 0))) (hb : w5.heap[b]? = some (.cells #[a, x, un] t' (0, 0))) (hlt : b < B) (hs : B < w5.heap.size)
    (hown : wr.ownsRow (B + 1) e 1 v n xs) (hg : w5.grownBy w1 v.ownBlock) : w1.cell? ⟨B, 0, none⟩ = some p ∧ w1.cell? ⟨b, 2, none⟩ = some un := by
  have h51 : Below (B + 1) w5 w1 := (Below.refl _ _).grown hg (by omega) (fun k hk => (World.ownsRow.lt hown k hk).1)
  exact ⟨by rw [at_cell ((h51.block _ (by omega)).trans hf)]; rfl, by rw [at_cell ((h51.block _ (by omega)).trans hb)]; rfl⟩

set_option maxRecDepth 100000 in
set_option maxHeartbeats 2000000 in
theorem faults_calls (v : Value) (l : List Lay) (c : Int) (N : Nat) (w : World) (h : ErrN w N v l c) (hN : N ≤ w.heap.size) (hT : Tab w) (hl : l.length ≤ 1000000) :
    Calls Tryz.prog 43 #[v] w (FaultsPost w l) := by
  obtain ⟨i0, hi, hz0, hz1, hz2⟩ := info_parts info_ptr
  have HE := Lib.hid h
  have HT := Lib.hid hT
  clear h hT
  go_enter Tryz.func43, Tryz.ntmps43
  go_wp2_with fail
  go_loopw [0, 3] (fun u v wr => ∃ (done rest : List Lay), FltAt w wr l c u v done rest) (fun u _ _ => deep u)
  case atStart =>
    have hb0 : Below w.heap.size w (w.alloc (.cells #[.pointer none] 97)) := (Below.refl _ _).alloc (Nat.le_refl _) _
    exact ⟨[], l, rfl, (HE.out.below hb0 hN).imp id fun h => h.more hN, World.ownsRow_nil _ _ _ _, hb0, _, at_new w _⟩
  case round =>
    obtain ⟨done, rest, C⟩ := hrel
    have hT := HT.out.below C.below
    have hsz := C.below.size
    obtain ⟨old, hold⟩ := C.f
    have hlt := at_lt hold
    rcases C.err with ⟨rfl, rfl, rfl⟩ | he
    · have HC := Lib.hid C
      clear C hold hT
      go_wp2_with (go_at_call 42; refine (asNil_calls _ _).mono ?_; rintro e w5 ⟨rfl, rfl⟩)
      go_ret
      exact HC.out.end_ (Below.refl _ _)
    · cases rest with
      | nil =>
        obtain rfl : _ = Value.iface 92 (.int .i64 c) := he
        have HC := Lib.hid C
        have HT2 := Lib.hid hT
        have HO := Lib.hid hold
        clear C hold hT
        go_wp2_with (go_at_call 42; refine (asMiss_calls c _ w.heap.size _ HT2.out HO.out).mono ?_; rintro e w5 ⟨rfl, hb⟩; replace hb := Lib.hid hb)
        go_ret
        exact HC.out.end_ hb.out
      | cons x r =>
        obtain ⟨rfl, hx, un, hb, he'⟩ := he
        have hown := C.own
        have hdl : done.length + 1 ≤ 1000000 := by have := C.parts; have := congrArg List.length this; simp at this; omega
        have HC := Lib.hid C
        have HT2 := Lib.hid hT
        have HO := Lib.hid hold
        have HE' := Lib.hid he'
        have HB := Lib.hid hb
        have HW := Lib.hid hown
        clear C hold hT he' hb hown
        go_wp2_with (first
          | (go_at_call 42; refine (asFault_calls x.blk _ w.heap.size _ HT2.out HO.out).mono ?_; rintro e w5 ⟨rfl, ho, hh⟩
             have c5 : w5.cell? ⟨w.heap.size, 0, none⟩ = some (.pointer (some ⟨x.blk, 0, none⟩)) := by rw [at_cell hh]; rfl
             have x5 : w5.cell? ⟨x.blk, 2, none⟩ = some un := by rw [at_cell (ho.at_ HB.out (by omega))]; rfl
             have ho5 := own_out HW.out ho (fun i hi => by omega)
             have hs5 := ho.size
             have hx5 := at_lt (ho.at_ HB.out (by omega))
             have hf5 := at_lt hh
             have HO5 := Lib.hid ho
             have HH5 := Lib.hid hh
             clear ho hh)
          | (at_builtin; refine Own.append_any rfl (.tmp 12) (.tmp 14) 95 rfl (w.heap.size + 1) 97 i0 _ 1 8 Tryz.underlying95 hi hz0 hz1 hz2 rfl (by decide) _ _ _ rfl (World.ownsRow.alloc ho5 _) _ 1 1 [.pointer (some ⟨x.blk, 0, none⟩)] rfl (fun h => nomatch h) rfl (one_new _ _ _ _ (by simp)) (by simp [Value.oneCell']) (by unfold maxLen; omega) (by omega) (by simp; omega) ?_; intro v' w1 hown1 hgrow1
             have C1 := Lib.hid (HC.out.step hx HE'.out (HO5.out.alloc _) (at_old _ _ HH5.out) hown1 hgrow1)
             have d := cells_kept (at_old _ _ HH5.out) (at_old _ _ (HO5.out.at_ HB.out (by omega))) hx (by simp; omega) HW.out hgrow1
             have d1 := d.1
             have d2 := d.2
             clear hown1 hgrow1 ho5 c5 x5 d))
        go_roundw
        case rel => exact ⟨_, r, C1.out⟩
        case measure =>
          have := HE'.out
          cases r with
          | nil => rw [show un = _ from this]; simp [deep]
          | cons y s => rw [show un = _ from this.1]; have := this.2.1; simp [deep]; omega
end Go.Proofs.YtajfdachpdkbcaaGreatDoor.Flt
end

section
namespace Go.Proofs.YtajfdachpdkbcaaGreatDoor.Tree
open Go.RowKit Go.Proofs.YtajfdachpdkbcaaGreatDoor.Own Go.Proofs.YtajfdachpdkbcaaGreatDoor.Rw Go.Proofs.YtajfdachpdkbcaaGreatDoor.Lex

/-- a piece as a value -/
def pcv (p : Pc) : Value := .agg #[.int .i64 p.kind, .string ⟨p.text.toArray⟩, .int .i64 p.line]
def faultAt (w : World) (g : Nat) (c n : Int) : Prop := w.heap[g]? = some (.cells #[.int .i64 n, .string ⟨#[]⟩, .iface 92 (.int .i64 c)] 99 (0, 0))
/-- the reading was given up -/
def Gone (c n : Int) (S : Nat → Prop) (w : World) (e : Ending) (w' : World) : Prop :=
  ∃ g, e = .panicked [{ v := .iface 97 (.pointer (some ⟨g, 0, none⟩)), recovered := false }] ∧ faultAt w' g c n ∧ Out S w w'
theorem Gone.up {c n : Int} {S S' : Nat → Prop} {w0 w w' : World} {e : Ending} (h : Gone c n S' w e w') (hb : Out S w0 w) (hs : ∀ i, i < w0.heap.size → S' i → S i) : Gone c n S w0 e w' := by
  obtain ⟨g, he, hf, ho⟩ := h
  exact ⟨g, he, hf, hb.trans ho hs⟩

set_option maxRecDepth 100000 in
set_option maxHeartbeats 4000000 in
theorem giveUp_calls (c : Int) (hc : c ≠ 0) (p : Pc) (S : Nat → Prop) (w : World) :
    Calls Tryz.prog 112 #[.int .i64 c, pcv p] w (Gone c p.line S w) := by
  have HC := Lib.hid hc
  clear hc
  obtain ⟨k, t, n⟩ := p
  unfold pcv
  go_enter Tryz.func112, Tryz.ntmps112
  go_wp2_with (go_at_call 77; refine (Flt.new_some c _ ⟨#[]⟩ HC.out _).mono ?_; rintro e w5 ⟨rfl, rfl⟩)
  exact ⟨rfl, _, rfl, at_newk _ _ (by simp), ((Out.refl _ _).alloc _).alloc _⟩

/-- the reader, that stands at a piece -/
structure Rd (w : World) (P : List Pc) (p : Option Addr) (c rb k : Nat) : Prop where
  at_ : w.heap[rb]? = some (.cells #[.slice p P.length c, .int .i64 k] 106 (0, 0))
  pcs : Pcs w P p c
  ne : ∀ a, p = some a → a.block ≠ rb
  le : k ≤ P.length
  few : P.length ≤ 65536
theorem Rd.out {w w' : World} {P : List Pc} {p : Option Addr} {c rb k : Nat} {S : Nat → Prop} (h : Rd w P p c rb k) (hb : Out S w w') (hr : ¬ S rb) (hp : ∀ a, p = some a → ¬ S a.block) : Rd w' P p c rb k :=
  ⟨hb.at_ h.at_ hr, h.pcs.out hb hp, h.ne, h.le, h.few⟩
theorem Rd.kept {w w' : World} {P : List Pc} {p : Option Addr} {c rb k : Nat} (h : Rd w P p c rb k) (hb : Below w.heap.size w w') : Rd w' P p c rb k :=
  ⟨(hb.block rb (at_lt h.at_)).trans h.at_, h.pcs.kept hb, h.ne, h.le, h.few⟩
theorem Rd.set {w : World} {P : List Pc} {p : Option Addr} {c rb k : Nat} (h : Rd w P p c rb k) (hk : k < P.length) (n : Nat) (hn : n = k + 1) : Rd (w.setCell ⟨rb, 1, none⟩ (.int .i64 n)) P p c rb (k + 1) := by
  subst hn
  exact ⟨at_set h.at_ 1 _, h.pcs.out ((Out.refl (fun i => i = rb) w).setCell (fun _ => rfl) _) h.ne, h.ne, hk, h.few⟩
theorem set3_row {w : World} {b : Nat} {x y z : Value} {T : TypeId} (h : w.heap[b]? = some (.cells #[x, y, z] T (0, 0))) (x' y' z' : Value) :
    (((w.setCell ⟨b, 0, none⟩ x').setCell ⟨b, 1, none⟩ y').setCell ⟨b, 2, none⟩ z').heap[b]? = some (.cells #[x', y', z'] T (0, 0)) :=
  at_set (at_set (at_set h 0 x') 1 y') 2 z'
theorem set3_out (S : Nat → Prop) {a w : World} (h : Out S a w) {b : Nat} (hb : a.heap.size ≤ b) (x' y' z' : Value) : Out S a (((w.setCell ⟨b, 0, none⟩ x').setCell ⟨b, 1, none⟩ y').setCell ⟨b, 2, none⟩ z') :=
  ((h.setCell (p := ⟨b, 0, none⟩) (fun h => absurd h (by show ¬ b < _; omega)) _).setCell (p := ⟨b, 1, none⟩) (fun h => absurd h (by show ¬ b < _; omega)) _).setCell (p := ⟨b, 2, none⟩) (fun h => absurd h (by show ¬ b < _; omega)) _
theorem set3_self (w : World) (b : Nat) (x' y' z' : Value) : Out (fun k => k = b) w (((w.setCell ⟨b, 0, none⟩ x').setCell ⟨b, 1, none⟩ y').setCell ⟨b, 2, none⟩ z') :=
  (((Out.refl (fun k => k = b) w).setCell (p := ⟨b, 0, none⟩) (fun _ => rfl) _).setCell (p := ⟨b, 1, none⟩) (fun _ => rfl) _).setCell (p := ⟨b, 2, none⟩) (fun _ => rfl) _
def OnlyR (rb : Nat) (k : Nat) : Prop := k = rb

set_option maxRecDepth 100000 in
set_option maxHeartbeats 4000000 in
theorem next_ok (P : List Pc) (p : Option Addr) (c rb k : Nat) (w : World) (h : Rd w P p c rb k) (hk : k < P.length) :
    Calls Tryz.prog 82 #[.pointer (some ⟨rb, 0, none⟩)] w fun e w' => e = .returned (pcv P[k]) ∧ Rd w' P p c rb (k + 1) ∧ Out (OnlyR rb) w w' := by
  have H := Lib.hid h
  have hlt := at_lt h.at_
  have e0 : w.cell? ⟨rb, 0, none⟩ = some (.slice p P.length c) := at_cell h.at_ 0
  have e1 : w.cell? ⟨rb, 1, none⟩ = some (.int .i64 k) := at_cell h.at_ 1
  have f1 : w.frozen? ⟨rb, 1, none⟩ = false := at_frozen h.at_ 1
  have hc := h.pcs.cap
  have hm := h.pcs.max
  unfold maxLen at hm
  have hfew := h.few
  rcases h.pcs.cells with h0 | ⟨b, rfl, hb, hcs⟩
  · subst h0; simp at hk
  obtain ⟨c0, c1, c2⟩ := hcs k hk
  clear h hcs
  have q1 : ((k : Int) == (P.length : Int)) = false := by simp; omega
  have q2 : (k : Int) < (P.length : Int) := by omega
  have HK := Lib.hid hk
  generalize hx : P[k] = x at *
  obtain ⟨kd, tx, ln⟩ := x
  clear hx hk
  unfold pcv
  go_enter Tryz.func82, Tryz.ntmps82
  go_wp2_with fail
  go_quiet (fail)
  go_wp2_with fail
  go_region
  go_wp2_with fail
  have R1 := (H.out.kept (w' := (w.alloc (.cells #[.int .i64 0, .string ⟨#[]⟩, .int .i64 0] 151)).drewN (nq + 1)) (below_drew ((Below.refl _ _).alloc (Nat.le_refl _) _))).set HK.out (k + 1) rfl
  have O1 : Out (OnlyR rb) w (((w.alloc (.cells #[.int .i64 0, .string ⟨#[]⟩, .int .i64 0] 151)).drewN (nq + 1)).setCell ⟨rb, 1, none⟩ (.int .i64 (k + 1 : Nat))) := (((Out.refl (OnlyR rb) w).alloc _).drewN _).setCell (p := ⟨rb, 1, none⟩) (fun _ => rfl) _
  have r0 : (((w.alloc (.cells #[.int .i64 0, .string ⟨#[]⟩, .int .i64 0] 151)).drewN (nq + 1)).setCell ⟨rb, 1, none⟩ (.int .i64 (k + 1 : Nat))).heap[w.heap.size]? = some (.cells #[.int .i64 0, .string ⟨#[]⟩, .int .i64 0] 151 (0, 0)) := by
    rw [at_set_other _ (by omega)]; exact at_new w _
  have O2 := set3_out (OnlyR rb) O1 (b := w.heap.size) (Nat.le_refl _) (.int .i64 kd) (.string ⟨tx.toArray⟩) (.int .i64 ln)
  have r1 := set3_row r0 (.int .i64 kd) (.string ⟨tx.toArray⟩) (.int .i64 ln)
  have R2 := R1.out (set3_self _ w.heap.size (.int .i64 kd) (.string ⟨tx.toArray⟩) (.int .i64 ln)) (by intro e; have e : rb = w.heap.size := e; omega) (by rintro a ⟨⟩ e; have e : b = w.heap.size := e; omega)
  rw [show ((k + 1 : Nat) : Int) = (k : Int) + 1 by omega] at O2 r1 R2
  refine bodyPost_ret (results_cell_row rfl _ _ w.heap.size _ #[.int .i64 kd, .string ⟨tx.toArray⟩, .int .i64 ln] _ _ rfl (at_old _ _ r1) Tryz.underlying151 rfl (by kernel_rfl)) rfl ?_
  exact ⟨rfl, R2.kept ((Below.refl _ _).alloc (Nat.le_refl _) _), O2.alloc _⟩

set_option maxRecDepth 100000 in
set_option maxHeartbeats 4000000 in
theorem next_end (P : List Pc) (p : Option Addr) (c rb k : Nat) (w : World) (h : Rd w P p c rb k) (hk : k = P.length) (h0 : 0 < k) :
    Calls Tryz.prog 82 #[.pointer (some ⟨rb, 0, none⟩)] w (Gone 3 (lastOf P) (OnlyR rb) w) := by
  have hlt := at_lt h.at_
  have e0 : w.cell? ⟨rb, 0, none⟩ = some (.slice p P.length c) := at_cell h.at_ 0
  have e1 : w.cell? ⟨rb, 1, none⟩ = some (.int .i64 k) := at_cell h.at_ 1
  have hc := h.pcs.cap
  have hm := h.pcs.max
  unfold maxLen at hm
  have hfew := h.few
  rcases h.pcs.cells with hn | ⟨b, rfl, hb, hcs⟩
  · subst hn; simp at hk; omega
  obtain ⟨j, rfl⟩ : ∃ j, k = j + 1 := ⟨k - 1, by omega⟩
  obtain ⟨c0, c1, c2⟩ := hcs j (by omega)
  have HL := Lib.hid (show lastOf P = (P[j]'(by omega)).line by
    unfold lastOf
    rw [List.getLast?_eq_getElem?, show P.length - 1 = j by omega, List.getElem?_eq_getElem (by omega)])
  clear h hcs
  have q1 : (((j + 1 : Nat) : Int) == (P.length : Int)) = true := by simp; omega
  have q2 : (j : Int) < (P.length : Int) := by omega
  have q3 : ((j + 1 : Nat) : Int) - 1 = (j : Int) := by omega
  generalize hx : P[j] = x at *
  have HG := Lib.hid fun w => giveUp_calls 3 (by decide) x (OnlyR rb) w
  obtain ⟨kd, tx, ln⟩ := x
  unfold pcv at HG
  rw [HL.out]
  clear hx hk
  have q4 : IntKind.i64.wrap (((j + 1 : Nat) : Int) - 1) = (j : Int) := by rw [q3, IntKind.wrap_i64]; omega
  have q7 : IntKind.i64.wrap (j : Int) = (j : Int) := by rw [IntKind.wrap_i64]; omega
  have q8 : j < P.length := by omega
  have q5 : ((j + 1 : Nat) : Int) ≤ 65536 := by omega
  have q6 : 0 ≤ ((j + 1 : Nat) : Int) := by omega
  generalize ((j + 1 : Nat) : Int) = m at *
  go_enter Tryz.func82, Tryz.ntmps82
  go_wp2_with fail
  go_quiet (fail)
  go_wp2_with fail
  have O0 := Lib.hid (((Out.refl (OnlyR rb) w).alloc (.cells #[.int .i64 0, .string ⟨#[]⟩, .int .i64 0] 151)).drewN nq)
  have B0 : Below w.heap.size w ((w.alloc (.cells #[.int .i64 0, .string ⟨#[]⟩, .int .i64 0] 151)).drewN nq) := below_drew ((Below.refl _ _).alloc (Nat.le_refl _) _)
  have x0 := (B0.cell (p := ⟨rb, 0, none⟩) hlt).trans e0
  have x1 := (B0.cell (p := ⟨rb, 1, none⟩) hlt).trans e1
  have y0 := (B0.cell (p := ⟨b, j * 3, none⟩) hb).trans c0
  have y1 := (B0.cell (p := ⟨b, j * 3 + 1, none⟩) hb).trans c1
  have y2 := (B0.cell (p := ⟨b, j * 3 + 2, none⟩) hb).trans c2
  clear B0 e0 e1 c0 c1 c2
  generalize (w.alloc (.cells #[.int .i64 0, .string ⟨#[]⟩, .int .i64 0] 151)).drewN nq = w1 at *
  go_still_tail 11, (by kernel_rfl)
  change wpList _ _ _ _ _ w1.drew
  go_wp2_with (go_at_call 112; refine (HG.out _).mono ?_; rintro e w5 ⟨g, rfl, hf, ho⟩)
  exact ⟨rfl, g, rfl, hf, O0.out.drew.trans ho fun _ _ h => h⟩
end Go.Proofs.YtajfdachpdkbcaaGreatDoor.Tree
end

section
namespace Go.Proofs.YtajfdachpdkbcaaGreatDoor.Tree
open Go.RowKit Go.Proofs.YtajfdachpdkbcaaGreatDoor.Own Go.Proofs.YtajfdachpdkbcaaGreatDoor.Rw Go.Proofs.YtajfdachpdkbcaaGreatDoor.Lex

/-- what statement answers, at a piece that was taken -/
inductive NdPost (P : List Pc) (p : Option Addr) (c rb k : Nat) (w : World) (e : Ending) (w' : World) : Rs Nd → Prop
  | bad {cd n : Int} (h : Gone cd n (OnlyR rb) w e w') : NdPost P p c rb k w e w' (.bad cd n)
  | ok {nd : Nd} {k1 : Nat} {va vl : Value} (he : e = .returned (.agg #[str nd.key, va, .bool nd.block, vl, .int .i64 nd.line])) (hn : No w.heap.size w' [str nd.key, va, .bool nd.block, vl, .int .i64 nd.line] nd)
      (hr : Rd w' P p c rb k1) (hk : k ≤ k1) (ho : Out (OnlyR rb) w w') : NdPost P p c rb k w e w' (.ok nd (P.drop k1))
/-- what block answers, and all -/
inductive BkPost (P : List Pc) (p : Option Addr) (c rb k : Nat) (w : World) (e : Ending) (w' : World) : Rs (List Nd) → Prop
  | bad {cd n : Int} (h : Gone cd n (OnlyR rb) w e w') : BkPost P p c rb k w e w' (.bad cd n)
  | ok {ns : List Nd} {k1 : Nat} {v : Value} (he : e = .returned v) (hf : Fo w.heap.size w' v ns)
      (hr : Rd w' P p c rb k1) (hk : k ≤ k1) (ho : Out (OnlyR rb) w w') : BkPost P p c rb k w e w' (.ok ns (P.drop k1))
def left (P : List Pc) (rb : Nat) (w : World) : Nat :=
  match w.cell? ⟨rb, 1, none⟩ with
  | some (.int _ i) => P.length - i.toNat
  | _ => 0
theorem Rd.left {w : World} {P : List Pc} {p : Option Addr} {c rb k : Nat} (h : Rd w P p c rb k) : Tree.left P rb w = P.length - k := by
  unfold Tree.left
  rw [at_cell h.at_ 1]
  simp
theorem own_form {w : World} {B e n size : Nat} {v : Value} {xs : List Value} (h : w.ownsRow B e size v n xs) : ∃ p c, v = .slice p n c := by
  rcases h.2 with ⟨rfl, h0⟩ | ⟨g, cap, cur, rfl, _⟩
  · exact ⟨none, 0, by rw [show n = 0 from h0]⟩
  · exact ⟨_, _, rfl⟩
theorem info_str : (Tryz.prog.info? 9).map (fun i => (i.zero, i.size, i.bytes)) = some (some (.string ⟨#[]⟩), 1, 16) := by kernel_rfl
theorem drop_at {P : List Pc} {k : Nat} (h : k < P.length) : P.drop k = P[k] :: P.drop (k + 1) := List.drop_eq_getElem_cons h
theorem drop_end {P : List Pc} {k : Nat} (h : k = P.length) : P.drop k = [] := List.drop_eq_nil_of_le (by omega)

/-- the arguments that were found -/
structure ArgAt (P : List Pc) (p : Option Addr) (c rb k : Nat) (tx : List UInt8) (ln : Int) (w wr : World) (al : List (List UInt8)) (av : Value) (k1 : Nat) : Prop where
  rd : Rd wr P p c rb k1
  out : Out (OnlyR rb) w wr
  hk : k ≤ k1
  res : wr.heap[w.heap.size + 1]? = some (.cells #[.string ⟨#[]⟩, .slice none 0 0, .bool false, .slice none 0 0, .int .i64 0] 57 (0, 0))
  nd : wr.heap[w.heap.size + 1 + 1]? = some (.cells #[.string ⟨tx.toArray⟩, av, .bool false, .slice none 0 0, .int .i64 ln] 57 (0, 0))
  row : wr.ownsRow (w.heap.size + 3) 9 1 av al.length (strs al)
  few : al.length ≤ 16
  is : argsOf (lastOf P) al (P.drop k1) = argsOf (lastOf P) [] (P.drop k)
  lt : rb < w.heap.size

theorem ArgAt.keep {P : List Pc} {p : Option Addr} {c rb k : Nat} {tx : List UInt8} {ln : Int} {w wr w5 W w1 : World} {al : List (List UInt8)} {av : Value} {k1 : Nat} (C : ArgAt P p c rb k tx ln w wr al av k1)
    (ho5 : Out (OnlyR rb) wr w5) (hW : Below w5.heap.size w5 W) (hg : W.grownBy w1 av.ownBlock) :
    w1.heap[w.heap.size + 1]? = some (.cells #[.string ⟨#[]⟩, .slice none 0 0, .bool false, .slice none 0 0, .int .i64 0] 57 (0, 0)) ∧
    w1.heap[w.heap.size + 1 + 1]? = some (.cells #[.string ⟨tx.toArray⟩, av, .bool false, .slice none 0 0, .int .i64 ln] 57 (0, 0)) := by
  have hl := C.lt
  have k : ∀ {b : Nat} {o : Obj}, wr.heap[b]? = some o → w.heap.size ≤ b → b < w.heap.size + 3 → w1.heap[b]? = some o := by
    intro b o ho h1 h2
    have h5 := ho5.at_ ho (by show ¬ b = rb; omega)
    have h6 := (hW.block b (at_lt h5)).trans h5
    refine (hg.block b (at_lt h6) fun e => ?_).trans h6
    have := (World.ownsRow.lt C.row b e.symm).1
    omega
  exact ⟨k C.res (by omega) (by omega), k C.nd (by omega) (by omega)⟩
theorem ArgAt.step {P : List Pc} {p : Option Addr} {c rb k : Nat} {tx : List UInt8} {ln : Int} {w wr w5 W w1 : World} {al : List (List UInt8)} {av v' : Value} {k1 : Nat} (C : ArgAt P p c rb k tx ln w wr al av k1)
    (hp : ∀ a, p = some a → a.block < w.heap.size) (hr5 : Rd w5 P p c rb (k1 + 1)) (ho5 : Out (OnlyR rb) wr w5) (hW : Below w5.heap.size w5 W) (hg : W.grownBy w1 av.ownBlock) {t2 : List UInt8}
    (hown : w1.ownsRow (w.heap.size + 3) 9 1 v' (al.length + 1) (strs al ++ [.string ⟨t2.toArray⟩])) (h16 : al.length ≠ 16) (hi : argsOf (lastOf P) (al ++ [t2]) (P.drop (k1 + 1)) = argsOf (lastOf P) [] (P.drop k)) :
    ArgAt P p c rb k tx ln w (w1.setCell ⟨w.heap.size + 1 + 1, 1, none⟩ v') (al ++ [t2]) v' (k1 + 1) := by
  obtain ⟨n1, n2⟩ := C.keep ho5 hW hg
  have hl := C.lt
  have hs := C.out.size
  have hs5 := ho5.size
  have hsW := hW.size
  have hf := C.few
  have hk := C.hk
  have OG : Out (fun i => av.ownBlock = some i) w5 w1 := out_grown (Out.ofNew hW) hg fun i e _ => e
  have OS : Out (fun i => w.heap.size < i) w5 (w1.setCell ⟨w.heap.size + 1 + 1, 1, none⟩ v') :=
    (OG.mono (S' := fun i => w.heap.size < i) fun i _ e => by have := (World.ownsRow.lt C.row i e).1; omega).setCell (p := ⟨w.heap.size + 1 + 1, 1, none⟩) (fun _ => by show w.heap.size < w.heap.size + 1 + 1; omega) v'
  refine ⟨?_, ?_, by omega, (at_set_other _ (by omega) _ _).trans n1, at_set n2 1 v', ?_, by rw [List.length_append, List.length_singleton]; omega, hi, hl⟩
  · exact hr5.out OS (by omega) fun a e => by have := hp a e; omega
  · exact (C.out.trans ho5 fun _ _ h => h).trans OS fun i hi h => by omega
  · rw [List.length_append, List.length_singleton, strs_app]; exact own_set hown (by omega) 1 v'

set_option maxRecDepth 100000 in
set_option maxHeartbeats 4000000 in
theorem stm_calls (P : List Pc) (p : Option Addr) (c rb : Nat) (B : Nat → List Pc → Rs (List Nd)) (d k : Nat) (hd : d ≤ 4) (hk0 : 0 < k) (key : Pc) (w : World) (h : Rd w P p c rb k)
    (hB : d ≠ 4 → ∀ (k1 : Nat) (w1 : World), k ≤ k1 → Rd w1 P p c rb k1 → Calls Tryz.prog 113 #[.pointer (some ⟨rb, 0, none⟩), .int .i64 ((d : Int) + 1)] w1 fun e w' => BkPost P p c rb k1 w1 e w' (B (d + 1) (P.drop k1))) :
    Calls Tryz.prog 81 #[.pointer (some ⟨rb, 0, none⟩), pcv key, .int .i64 d] w fun e w' => NdPost P p c rb k w e w' (stm (lastOf P) B d key (P.drop k)) := by
  obtain ⟨i0, hi, hz0, hz1, hz2⟩ := info_parts info_str
  have H := Lib.hid h
  have HB := Lib.hid hB
  have hlt := at_lt h.at_
  have hp : ∀ a, p = some a → a.block < w.heap.size := by
    rintro a rfl
    rcases h.pcs.cells with h0 | ⟨b, e, hb, _⟩
    · have := h.le; rw [h0] at this; simp at this; omega
    · cases e; exact hb
  have HP := Lib.hid hp
  clear h hB hp
  have HG := Lib.hid fun w => giveUp_calls 3 (by decide) key (OnlyR rb) w
  obtain ⟨kd, tx, ln⟩ := key
  unfold pcv at HG
  by_cases h1 : kd = 1
  · subst h1
    unfold pcv
    go_enter Tryz.func81, Tryz.ntmps81
    go_wp2_with fail
    go_loopw [] (fun wr => ∃ (al : List (List UInt8)) (av : Value) (k1 : Nat), ArgAt P p c rb k tx ln w wr al av k1) (fun wr => Tree.left P rb wr)
    case atStart =>
      refine ⟨[], .slice none 0 0, k, ?_, ?_, Nat.le_refl _, ?_, at_newk _ _ (by simp), World.ownsRow_nil _ _ _ _, by simp, rfl, hlt⟩
      · exact H.out.kept ((((Below.refl _ _).alloc (Nat.le_refl _) _).alloc (by simp) _).alloc (by simp; omega) _)
      · exact ((((Out.refl (OnlyR rb) w).alloc _).alloc _).alloc _)
      · exact at_old _ _ (at_newk _ _ (by simp))
    case round =>
      obtain ⟨al, av, k1, C⟩ := hrel
      rename World => wr
      have HC := Lib.hid C
      have hk1 := C.rd.le
      have hkk := C.hk
      have hs := C.out.size
      have hfew := C.few
      clear C
      rcases Nat.lt_or_eq_of_le hk1 with hl | hl
      · have HN := Lib.hid (next_ok P p c rb k1 wr HC.out.rd hl)
        have HA := Lib.hid (show argsOf (lastOf P) al (P[k1] :: P.drop (k1 + 1)) = argsOf (lastOf P) [] (P.drop k) by rw [← drop_at hl]; exact HC.out.is)
        generalize P[k1] = x at HN HA
        have HG3 := Lib.hid fun w => giveUp_calls 3 (by decide) x (OnlyR rb) w
        have HG15 := Lib.hid fun w => giveUp_calls 15 (by decide) x (OnlyR rb) w
        obtain ⟨kx, t2, l2⟩ := x
        unfold pcv at HN HG3 HG15
        rw [argsOf] at HA
        simp only at HA
        by_cases hw : kx = 1 ∨ kx = 2
        · rw [if_pos hw] at HA
          have HW := Lib.hid hw
          by_cases h16 : al.length = 16
          · rw [if_pos h16] at HA
            have b16 : ((al.length : Int) == 16) = true := by simp [h16]
            have HS := Lib.hid (show stm (lastOf P) B d ⟨1, tx, ln⟩ (P.drop k) = .bad 15 l2 by
              unfold stm
              rw [if_pos rfl, ← HA.out])
            rcases hw with rfl | rfl
            all_goals
              go_wp2_with fail
              refine HN.out.mono ?_
              rintro e w5 ⟨rfl, hr5, ho5⟩
              have n5 := ho5.at_ HC.out.nd (by have := HC.out.lt; show ¬ _ = rb; omega)
              obtain ⟨ap, ac, rfl⟩ := own_form HC.out.row
              have g1 : w5.cell? ⟨w.heap.size + 1 + 1, 1, none⟩ = some (.slice ap al.length ac) := at_cell n5 1
              have lt5 := at_lt n5
              go_wp2_with (go_at_call 112; refine (HG15.out _).mono ?_; rintro e w6 ⟨g, rfl, hf, ho⟩)
              refine ⟨rfl, ?_⟩
              rw [HS.out]
              exact .bad ⟨g, rfl, hf, ((HC.out.out.trans ho5 fun _ _ h => h).alloc _).trans ho fun _ _ h => h⟩
          · rw [if_neg h16] at HA
            have b16 : ((al.length : Int) == 16) = false := by simp; omega
            have H16 := Lib.hid h16
            clear h16
            rcases hw with rfl | rfl
            all_goals
              go_wp2_with fail
              refine HN.out.mono ?_
              rintro e w5 ⟨rfl, hr5, ho5⟩
              have n5 := ho5.at_ HC.out.nd (by have := HC.out.lt; show ¬ _ = rb; omega)
              obtain ⟨ap, ac, rfl⟩ := own_form HC.out.row
              have g1 : w5.cell? ⟨w.heap.size + 1 + 1, 1, none⟩ = some (.slice ap al.length ac) := at_cell n5 1
              have lt5 := at_lt n5
              have HR5 := Lib.hid hr5
              have HO5 := Lib.hid ho5
              have row5 := own_out HC.out.row ho5 (fun i e => by have := (World.ownsRow.lt HC.out.row i e).1; have := HC.out.lt; show ¬ i = rb; omega)
              have s5 := ho5.size
              clear hr5 ho5 n5
              go_wp2_with (at_builtin; go_loud (refine Own.append_any rfl (.tmp 35) (.tmp 38) 55 rfl (w.heap.size + 3) 9 i0 _ 1 16 Tryz.underlying55 hi hz0 hz1 hz2 rfl (by decide) _ _ _ rfl (World.ownsRow.alloc (World.ownsRow.alloc row5 _) _) _ 1 1 [.string ⟨t2.toArray⟩] rfl (fun h => nomatch h) rfl (one_new _ _ _ _ (by simp)) (by simp [Value.oneCell']) (by unfold maxLen; omega) (by omega) (by simp; omega) ?_; intro v' w1 hown1 hgrow1; have kk := HC.out.keep HO5.out (Below.alloc (Below.alloc (Below.refl w5.heap.size w5) (Nat.le_refl _) _) (by simp) _) hgrow1; have C1 := Lib.hid (HC.out.step HP.out HR5.out HO5.out (Below.alloc (Below.alloc (Below.refl w5.heap.size w5) (Nat.le_refl _) _) (by simp) _) hgrow1 hown1 H16.out HA.out); have g7 : w1.cell? ⟨w.heap.size + 1 + 1, 1, none⟩ = some (.slice ap al.length ac) := at_cell kk.2 1; have f7 : w1.frozen? ⟨w.heap.size + 1 + 1, 1, none⟩ = false := at_frozen kk.2 1; obtain ⟨p', c', rfl⟩ := own_form hown1; clear hown1 hgrow1 kk))
              go_roundw
              case rel => exact ⟨_, _, _, C1.out⟩
              case measure =>
                rw [C1.out.rd.left, HC.out.rd.left]; omega
        · rw [if_neg hw] at HA
          have w1 : (kx == 1) = false := by simp; omega
          have w2 : (kx == 2) = false := by simp; omega
          by_cases h3 : kx = 3
          · subst h3
            rw [if_pos rfl] at HA
            by_cases h4 : d = 4
            · have HS := Lib.hid (show stm (lastOf P) B d ⟨1, tx, ln⟩ (P.drop k) = .bad 15 l2 by
                unfold stm
                rw [if_pos rfl, ← HA.out]
                exact if_pos h4)
              have b4 : ((d : Int) == 4) = true := by simp [h4]
              go_wp2_with fail
              refine HN.out.mono ?_
              rintro e w5 ⟨rfl, hr5, ho5⟩
              go_wp2_with (go_at_call 112; refine (HG15.out _).mono ?_; rintro e w6 ⟨g, rfl, hf, ho⟩)
              refine ⟨rfl, ?_⟩
              rw [HS.out]
              exact .bad ⟨g, rfl, hf, ((HC.out.out.trans ho5 fun _ _ h => h).alloc _).trans ho fun _ _ h => h⟩
            · have HS := Lib.hid (show stm (lastOf P) B d ⟨1, tx, ln⟩ (P.drop k) = (match B (d + 1) (P.drop (k1 + 1)) with | .bad c l => .bad c l | .ok ns r2 => .ok (.mk tx al true ns ln) r2) by
                unfold stm
                rw [if_pos rfl, ← HA.out]
                exact if_neg h4)
              have b4 : ((d : Int) == 4) = false := by simp; omega
              have HBB := Lib.hid (HB.out h4 (k1 + 1))
              clear hw h4
              go_wp2_with fail
              refine HN.out.mono ?_
              rintro e w5 ⟨rfl, hr5, ho5⟩
              obtain ⟨ap, ac, rfl⟩ := own_form HC.out.row
              have n5 := ho5.at_ HC.out.nd (by have := HC.out.lt; show ¬ _ = rb; omega)
              have r5 := ho5.at_ HC.out.res (by have := HC.out.lt; show ¬ _ = rb; omega)
              obtain ⟨⟨g0, g1, g2, g3, g4⟩, f0, f1, f2, f3, f4⟩ := row5 n5
              have lt5 := at_lt n5
              have N5 := Lib.hid n5
              have R5 := Lib.hid r5
              have HR5 := Lib.hid hr5
              have HO5 := Lib.hid ho5
              have ROW5 := Lib.hid (own_out HC.out.row ho5 (fun i e => by have := (World.ownsRow.lt HC.out.row i e).1; have := HC.out.lt; show ¬ i = rb; omega))
              clear hr5 ho5 n5 r5
              go_wp2_with fail
              have S6 := (Out.refl (fun i => i = w.heap.size + 1 + 1) w5).setCell (p := ⟨w.heap.size + 1 + 1, 2, none⟩) (fun _ => rfl) (.bool true)
              refine (HBB.out _ (by omega) ((HR5.out.out S6 (by omega) fun a e => by have := HP.out a e; omega).kept ((Below.refl _ _).alloc (Nat.le_refl _) _))).mono ?_
              intro e w7 hP
              have N6 := at_set N5.out 2 (.bool true)
              have R6 := (at_set_other (b := w.heap.size + 1 + 1) w5 (k := w.heap.size + 1) (by omega) 2 (.bool true)).trans R5.out
              have ROW6 := own_set ROW5.out (k := w.heap.size + 1 + 1) (by omega) 2 (.bool true)
              have s6 := S6.size
              generalize w5.setCell ⟨w.heap.size + 1 + 1, 2, none⟩ (.bool true) = w6 at *
              have O6 := Lib.hid (Out.trans (HC.out.out.trans HO5.out fun _ _ h => h) S6 (S := OnlyR rb) fun i hi e => by omega)
              generalize B (d + 1) (P.drop (k1 + 1)) = r at hP HS
              cases hP with
              | bad hG =>
                obtain ⟨g, rfl, hf, ho⟩ := hG
                refine ⟨rfl, ?_⟩
                rw [HS.out]
                exact .bad ⟨g, rfl, hf, (O6.out.alloc _).trans ho fun _ _ h => h⟩
              | @ok ns k2 v he hF hr7 hk7 ho7 =>
                subst he
                obtain ⟨vp, vc, rfl⟩ := hF.shape
                have n7 := ho7.at_ (at_old _ _ N6) (by have := HC.out.lt; show ¬ _ = rb; omega)
                have r7 := ho7.at_ (at_old _ _ R6) (by have := HC.out.lt; show ¬ _ = rb; omega)
                have ROW7 := Lib.hid (own_out (World.ownsRow.alloc ROW6 _) ho7 (fun i e => by have := (World.ownsRow.lt HC.out.row i e).1; have := HC.out.lt; show ¬ i = rb; omega))
                have O7 := Lib.hid ((O6.out.alloc _).trans ho7 fun _ _ h => h)
                obtain ⟨⟨x0, x1, x2, x3, x4⟩, y0, y1, y2, y3, y4⟩ := row5 n7
                obtain ⟨⟨z0, z1, z2, z3, z4⟩, u0, u1, u2, u3, u4⟩ := row5 r7
                have s7 := ho7.size
                rw [show (w6.alloc _).heap.size = w6.heap.size + 1 by simp] at s7
                have HF := Lib.hid hF
                have HR7 := Lib.hid hr7
                have N7 := Lib.hid n7
                have R7 := Lib.hid r7
                have lt7 := at_lt n7
                have lt8 := at_lt r7
                clear hF hr7 ho7 n7 r7 N6 R6 ROW6 g0 g1 g2 g3 g4 f0 f1 f2 f3 f4
                go_wp2_with fail
                have S8 := (Out.refl (fun i => i = w.heap.size + 1 + 1) w7).setCell (p := ⟨w.heap.size + 1 + 1, 3, none⟩) (fun _ => rfl) (.slice vp ns.length vc)
                have R8 := (at_set_other (b := w.heap.size + 1 + 1) w7 (k := w.heap.size + 1) (by omega) 3 (.slice vp ns.length vc)).trans R7.out
                have l8 := S8.size
                have E := set5_row R8 (.string ⟨tx.toArray⟩) (.slice ap al.length ac) (.bool true) (.slice vp ns.length vc) (.int .i64 ln)
                have S9 := set5_self (w7.setCell ⟨w.heap.size + 1 + 1, 3, none⟩ (.slice vp ns.length vc)) (w.heap.size + 1) (.string ⟨tx.toArray⟩) (.slice ap al.length ac) (.bool true) (.slice vp ns.length vc) (.int .i64 ln)
                refine bodyPost_ret (results_cell_row rfl _ _ (w.heap.size + 1) _ #[.string ⟨tx.toArray⟩, .slice ap al.length ac, .bool true, .slice vp ns.length vc, .int .i64 ln] _ _ rfl E Tryz.underlying57 rfl (by kernel_rfl)) rfl ?_
                rw [HS.out]
                generalize (((((((w7.setCell ⟨w.heap.size + 1 + 1, 3, none⟩ (.slice vp ns.length vc)).setCell ⟨w.heap.size + 1, 0, none⟩ (.string ⟨tx.toArray⟩)).setCell ⟨w.heap.size + 1, 1, none⟩ (.slice ap al.length ac)).setCell ⟨w.heap.size + 1, 2, none⟩ (.bool true)).setCell ⟨w.heap.size + 1, 3, none⟩ (.slice vp ns.length vc)).setCell ⟨w.heap.size + 1, 4, none⟩ (.int .i64 ln))) = w9 at *
                generalize w7.setCell ⟨w.heap.size + 1 + 1, 3, none⟩ (.slice vp ns.length vc) = w8 at *
                have S79 : Out (fun i => i = w.heap.size + 1 ∨ i = w.heap.size + 1 + 1) w7 w9 := (S8.mono fun i _ e => .inr e).trans S9 fun i _ e => .inl e
                refine .ok (nd := .mk tx al true ns ln) (k1 := k2) (va := .slice ap al.length ac) (vl := .slice vp ns.length vc) rfl ?_ ?_ (by omega) (O7.out.trans S79 fun i hi e => by omega)
                · exact No.mk (own_base (own_out ROW7.out S79 fun i e h => by have := (World.ownsRow.lt ROW7.out i e).1; omega) (by omega)) ((HF.out.out S79 fun i e => by rw [show (w6.alloc _).heap.size = w6.heap.size + 1 by simp]; omega).base (by rw [show (w6.alloc _).heap.size = w6.heap.size + 1 by simp]; omega))
                · exact HR7.out.out S79 (by omega) fun a e h => by have := HP.out a e; omega
          · rw [if_neg h3] at HA
            have w3 : (kx == 3) = false := by simp; omega
            by_cases h5 : kx = 5
            · subst h5
              rw [if_pos rfl] at HA
              have HS := Lib.hid (show stm (lastOf P) B d ⟨1, tx, ln⟩ (P.drop k) = .ok (.mk tx al false [] ln) (P.drop (k1 + 1)) by
                unfold stm
                rw [if_pos rfl, ← HA.out])
              go_wp2_with fail
              refine HN.out.mono ?_
              rintro e w5 ⟨rfl, hr5, ho5⟩
              obtain ⟨ap, ac, rfl⟩ := own_form HC.out.row
              have n5 := ho5.at_ HC.out.nd (by have := HC.out.lt; show ¬ _ = rb; omega)
              have r5 := ho5.at_ HC.out.res (by have := HC.out.lt; show ¬ _ = rb; omega)
              obtain ⟨⟨g0, g1, g2, g3, g4⟩, -⟩ := row5 n5
              obtain ⟨⟨z0, z1, z2, z3, z4⟩, f0, f1, f2, f3, f4⟩ := row5 r5
              have lt6 := at_lt r5
              have lt5 := at_lt n5
              have N5 := Lib.hid n5
              have R5 := Lib.hid r5
              have HR5 := Lib.hid hr5
              have HO5 := Lib.hid ho5
              have row5 := Lib.hid (own_out HC.out.row ho5 (fun i e => by have := (World.ownsRow.lt HC.out.row i e).1; have := HC.out.lt; show ¬ i = rb; omega))
              clear hr5 ho5 n5 r5
              go_wp2_with fail
              have E := set5_row R5.out (.string ⟨tx.toArray⟩) (.slice ap al.length ac) (.bool false) (.slice none 0 0) (.int .i64 ln)
              have S5 := set5_self w5 (w.heap.size + 1) (.string ⟨tx.toArray⟩) (.slice ap al.length ac) (.bool false) (.slice none 0 0) (.int .i64 ln)
              refine bodyPost_ret (results_cell_row rfl _ _ (w.heap.size + 1) _ #[.string ⟨tx.toArray⟩, .slice ap al.length ac, .bool false, .slice none 0 0, .int .i64 ln] _ _ rfl (at_old _ _ E) Tryz.underlying57 rfl (by kernel_rfl)) rfl ?_
              rw [HS.out]
              generalize (((((w5.setCell ⟨w.heap.size + 1, 0, none⟩ (.string ⟨tx.toArray⟩)).setCell ⟨w.heap.size + 1, 1, none⟩ (.slice ap al.length ac)).setCell ⟨w.heap.size + 1, 2, none⟩ (.bool false)).setCell ⟨w.heap.size + 1, 3, none⟩ (.slice none 0 0)).setCell ⟨w.heap.size + 1, 4, none⟩ (.int .i64 ln)) = w8 at *
              have hO := Out.trans (HC.out.out.trans HO5.out fun _ _ h => h) S5 (S := OnlyR rb) fun i hi e => by omega
              refine .ok (nd := .mk tx al false [] ln) (k1 := k1 + 1) (va := .slice ap al.length ac) (vl := .slice none 0 0) rfl ?_ ?_ (by omega) (hO.alloc _)
              · exact No.mk (World.ownsRow.alloc (own_base (own_out row5.out S5 fun i e => by have := (World.ownsRow.lt row5.out i e).1; show ¬ i = _; omega) (by omega)) _) (Fo.nil _ _)
              · exact (HR5.out.out S5 (by omega) fun a e => by have := HP.out a e; omega).kept ((Below.refl _ _).alloc (Nat.le_refl _) _)
            · rw [if_neg h5] at HA
              have w4 : (kx == 5) = false := by simp; omega
              have HS := Lib.hid (show stm (lastOf P) B d ⟨1, tx, ln⟩ (P.drop k) = .bad 3 l2 by
                unfold stm
                rw [if_pos rfl, ← HA.out])
              clear hw h3 h5
              go_wp2_with fail
              refine HN.out.mono ?_
              rintro e w5 ⟨rfl, hr5, ho5⟩
              go_wp2_with (go_at_call 112; refine (HG3.out _).mono ?_; rintro e w6 ⟨g, rfl, hf, ho⟩)
              refine ⟨rfl, ?_⟩
              rw [HS.out]
              exact .bad ⟨g, rfl, hf, ((HC.out.out.trans ho5 fun _ _ h => h).alloc _).trans ho fun _ _ h => h⟩
      · have HS := Lib.hid (show stm (lastOf P) B d ⟨1, tx, ln⟩ (P.drop k) = .bad 3 (lastOf P) by
          unfold stm
          rw [if_pos rfl, ← HC.out.is, drop_end hl]; rfl)
        go_wp2_with fail
        refine (next_end P p c rb k1 wr HC.out.rd hl (by omega)).mono ?_
        rintro e w5 ⟨g, rfl, hf, ho⟩
        refine ⟨rfl, ?_⟩
        rw [HS.out]
        exact .bad ⟨g, rfl, hf, HC.out.out.trans ho fun _ _ h => h⟩
  · have HS := Lib.hid (show stm (lastOf P) B d ⟨kd, tx, ln⟩ (P.drop k) = .bad 3 ln from if_neg h1)
    have b1 : (kd != 1) = true := by simpa using h1
    clear h1
    unfold pcv
    go_enter Tryz.func81, Tryz.ntmps81
    go_wp2_with (go_at_call 112; refine (HG.out _).mono ?_; rintro e w5 ⟨g, rfl, hf, ho⟩)
    refine ⟨rfl, ?_⟩
    rw [HS.out]
    exact .bad ⟨g, rfl, hf, (((Out.refl (OnlyR rb) w).alloc _).alloc _).trans ho fun _ _ h => h⟩
end Go.Proofs.YtajfdachpdkbcaaGreatDoor.Tree
end

